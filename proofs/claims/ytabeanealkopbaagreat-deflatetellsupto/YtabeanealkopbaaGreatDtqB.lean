/- A part of the proof. -/
import Derived.Test.YtabeanealkopbaaGreatDtqA
import Derived.WalkMore
import Derived.RangeFuncNested
import Derived.RangeFuncBound
import Derived.RangeFuncCalls
import Derived.RangeFuncLeaves
import Derived.Shelf.Abstract
import Derived.Shelf.RegionOpen
import Derived.OwnWalkIn
import Derived.TacticsInMore
import Derived.LoopNIn
import Derived.LoopIn

set_option linter.unusedVariables false
set_option maxRecDepth 100000
set_option maxHeartbeats 24000000
namespace Go.Proofs.YtabeanealkopbaaGreat
namespace R8
open Go.RowKit Infl Mth
theorem x0v (l:List Nat) (i x:Nat):(l.map bv).set i (bv x)=(l.set i x).map bv:=by rw [List.map_set]
theorem w2w (B r:Nat) (hr:r<8) (hB:B<256):bits .and .u8 ((B:Int)/2^min r 8) 1=((B.testBit r).toNat:Int):=by
 have hd:B/2^r<256:=Nat.lt_of_le_of_lt (Nat.div_le_self _ _) hB
 rw [Nat.min_eq_left (by omega),show ((B:Int)/2^r)=((B/2^r:Nat):Int) by simp]
 have h:=u8_and_nat (B/2^r) 1 hd (by decide)
 rw [Nat.and_one_is_mod,←Nat.shiftRight_eq_div_pow,y8c] at h
 rw [←Nat.shiftRight_eq_div_pow]
 exact h
theorem w6x (v:Value) (zs:List Nat) (high:Bool) (w:World) (hr:Reads w v zs) (hn:zs.length≤2000000) (hs:∀z∈zs,z<256) :
  Calls Tryz.prog 36 #[v,.bool high] w fun e w'=>∃lv,e=.returned lv∧w'.ownsRow w.heap.size 3 1 lv (8*zs.length) ((List.range (8*zs.length)).map fun i=>bi (z4y high zs i))∧Below w.heap.size w w':=by
 obtain ⟨a,cap,rfl,hsrc⟩:=hr.spot
 obtain ⟨i0,hi,hz0,hz1,hz2⟩:=info_parts info3'
 have HS:=qz hsrc
 have HSM:=qz hs
 clear hsrc hs hr
 cases high
 ·go_enter Tryz.func36,Tryz.ntmps36
  go_wp2
  go_loopg [5,6] (8*zs.length) (fun gk o c ws=>∃i,gk=8*zs.length-i∧i≤8*zs.length∧c=.int .i64 (i:Int)∧ws.ownsRow w.heap.size 3 1 o i ((List.range i).map fun i=>bi (z4y false zs i))∧Below w.heap.size w ws)
  case atStart=>exact ⟨0,by omega,by omega,rfl,World.ownsRow_nil _ _ _ _,Below.refl _ _⟩
  case round =>
   obtain ⟨i,rfl,hil,rfl,hown,hbel⟩:=hrel
   by_cases hlt:i<8*zs.length
   ·obtain ⟨ab,ao,rfl,hcell⟩:=uh HS (by omega)
    have hq8:i/8<zs.length:=by omega
    have hcl:=z0a hbel (hcell (i/8) hq8)
    have hz:zs.getD (i/8) 0<256:=(uh HSM) _ (x0y _ _ hq8)
    have hbi:z4y false zs i=(zs.getD (i/8) 0).testBit (rk false 8 (i%8)):=rfl
    generalize zs.getD (i/8) 0=B at hcl hz hbi
    obtain ⟨q8,hq⟩:∃q8,q8=i/8:=⟨_,rfl⟩
    obtain ⟨r8,hr8⟩:∃r8,r8=i%8:=⟨_,rfl⟩
    rw [←hr8] at hbi
    rw [←hq] at hcl hq8
    have hr8':r8<8:=by omega
    have hbit:=w2w B r8 (by omega) hz
    rw [Nat.min_eq_left (by omega)] at hbit
    have hrk:rk false 8 r8=r8:=by simp [rk]
    rw [hrk] at hbi
    rw [←hbi] at hbit
    have HO:=qz hown
    have HB:=qz hbel
    have hw1:(q8:Int)<(zs.length:Int):=by omega
    have hw2:(0:Int)≤(q8:Int):=by omega
    have hdd:((i:Int)/8)=(q8:Int):=by omega
    have hmm:((i:Int)%8)=(r8:Int):=by omega
    have hi20:(i:Int)≤20000000:=by omega
    have hwb:=z9k (z4y false zs i)
    have hsz:=hbel.size
    have HN:Hid (∀ (j:Nat) u,[bi (z4y false zs i)][j]?=some u→(wr.alloc (.cells #[bi (z4y false zs i)] 3)).cell? ((⟨wr.heap.size,0,none⟩:Addr).add j)=some u):=qz (z4j _ _)
    clear hbi hown hbel hq hr8 hcell hrk
    skip
    go_wp2_with (at_builtin;go_must (refine wpList_append_own _ rfl (.tmp 20) (.tmp 31) 45 rfl w.heap.size 3 i0 (.int .i64 0) 1 8 Tryz.underlying45 hi hz0 hz1 hz2 rfl (by decide) u5 i _ (by rfl) ((uh HO).alloc _) ⟨wr.heap.size,0,none⟩ 1 1 [bi (z4y false zs i)] (by rfl) rfl (by exact uh HN) (by intro u hu;simp at hu;subst hu;rfl) (by unfold maxLen;omega) (by omega) (by simp;omega) ?_;intro v' w1 hown' hgrow _;have HO':=qz hown';have HG:=qz hgrow;clear hown' hgrow))
    go_roundg (8*zs.length-(i+1))
    case measure=>omega
    case rel =>
     refine ⟨i+1,rfl,by omega,by go_num,?_,?_⟩
     ·rw [List.range_succ,List.map_append];exact uh HO'
     ·exact ((uh HB).alloc hsz _).grown (uh HG) (by simp;omega) (fun k e=>((uh HO).lt k e).1)
   ·obtain rfl:i=8*zs.length:=by omega
    have HO:=qz hown
    have HB:=qz hbel
    clear hown hbel
    go_wp2
    go_ret
    exact ⟨_,rfl,uh HO,uh HB⟩
 ·go_enter Tryz.func36,Tryz.ntmps36
  go_wp2
  go_loopg [5,6] (8*zs.length) (fun gk o c ws=>∃i,gk=8*zs.length-i∧i≤8*zs.length∧c=.int .i64 (i:Int)∧ws.ownsRow w.heap.size 3 1 o i ((List.range i).map fun i=>bi (z4y true zs i))∧Below w.heap.size w ws)
  case atStart=>exact ⟨0,by omega,by omega,rfl,World.ownsRow_nil _ _ _ _,Below.refl _ _⟩
  case round =>
   obtain ⟨i,rfl,hil,rfl,hown,hbel⟩:=hrel
   by_cases hlt:i<8*zs.length
   ·obtain ⟨ab,ao,rfl,hcell⟩:=uh HS (by omega)
    have hq8:i/8<zs.length:=by omega
    have hcl:=z0a hbel (hcell (i/8) hq8)
    have hz:zs.getD (i/8) 0<256:=(uh HSM) _ (x0y _ _ hq8)
    have hbi:z4y true zs i=(zs.getD (i/8) 0).testBit (rk true 8 (i%8)):=rfl
    generalize zs.getD (i/8) 0=B at hcl hz hbi
    obtain ⟨q8,hq⟩:∃q8,q8=i/8:=⟨_,rfl⟩
    obtain ⟨r8,hr8⟩:∃r8,r8=i%8:=⟨_,rfl⟩
    rw [←hr8] at hbi
    rw [←hq] at hcl hq8
    have hr8':r8<8:=by omega
    have hbit:=w2w B (7-r8) (by omega) hz
    rw [Nat.min_eq_left (by omega)] at hbit
    have hrk:rk true 8 r8=(7-r8):=by simp [rk]
    rw [hrk] at hbi
    rw [←hbi] at hbit
    have HO:=qz hown
    have HB:=qz hbel
    have hw1:(q8:Int)<(zs.length:Int):=by omega
    have hw2:(0:Int)≤(q8:Int):=by omega
    have hdd:((i:Int)/8)=(q8:Int):=by omega
    have hmm:((i:Int)%8)=(r8:Int):=by omega
    have hi20:(i:Int)≤20000000:=by omega
    have hwb:=z9k (z4y true zs i)
    have hsz:=hbel.size
    have HN:Hid (∀ (j:Nat) u,[bi (z4y true zs i)][j]?=some u→(wr.alloc (.cells #[bi (z4y true zs i)] 3)).cell? ((⟨wr.heap.size,0,none⟩:Addr).add j)=some u):=qz (z4j _ _)
    clear hbi hown hbel hq hr8 hcell hrk
    have h7:((7:Int)-(r8:Int))=((7-r8:Nat):Int):=by omega
    go_wp2_with (at_builtin;go_must (refine wpList_append_own _ rfl (.tmp 20) (.tmp 31) 45 rfl w.heap.size 3 i0 (.int .i64 0) 1 8 Tryz.underlying45 hi hz0 hz1 hz2 rfl (by decide) u5 i _ (by rfl) ((uh HO).alloc _) ⟨wr.heap.size,0,none⟩ 1 1 [bi (z4y true zs i)] (by rfl) rfl (by exact uh HN) (by intro u hu;simp at hu;subst hu;rfl) (by unfold maxLen;omega) (by omega) (by simp;omega) ?_;intro v' w1 hown' hgrow _;have HO':=qz hown';have HG:=qz hgrow;clear hown' hgrow))
    go_roundg (8*zs.length-(i+1))
    case measure=>omega
    case rel =>
     refine ⟨i+1,rfl,by omega,by go_num,?_,?_⟩
     ·rw [List.range_succ,List.map_append];exact uh HO'
     ·exact ((uh HB).alloc hsz _).grown (uh HG) (by simp;omega) (fun k e=>((uh HO).lt k e).1)
   ·obtain rfl:i=8*zs.length:=by omega
    have HO:=qz hown
    have HB:=qz hbel
    clear hown hbel
    go_wp2
    go_ret
    exact ⟨_,rfl,uh HO,uh HB⟩
theorem z8v (high:Bool) (L:List Bool) (b:Bool) (M:Nat) :
  pk high M (L++[b])=(pk high M L).set (L.length/8) (z3u high L (L.length/8) ||| (b.toNat <<< rk high 8 (L.length%8))):=by
 apply List.ext_getElem?
 intro j
 by_cases hj:j<M
 ·by_cases e:j=L.length/8
  ·subst e
   rw [z7z _ _ _ _ hj,z6s high L b (L.length/8) (L.length%8) (by omega) (by omega),List.getElem?_set_self (by rw [z1h];exact hj)]
  ·rw [z7z _ _ _ _ hj,List.getElem?_set_ne (by omega),z7z _ _ _ _ hj,z5i high L b j (by omega)]
 ·rw [List.getElem?_eq_none (by rw [z1h];omega),List.getElem?_eq_none (by rw [List.length_set,z1h];omega)]
theorem y7j (high:Bool) (M:Nat) (L:List Bool):(madeCells (Value.int .u8 0).cells (M*1)).toList.toArray=((pk high M (List.take 0 L)).map bv).toArray:=by
 apply Array.ext
 ·simp [madeCells,pk]
 ·intro i h1 h2
  simp [madeCells,pk,Value.cells,y0o,bv,Nat.mod_one]
theorem w3f (B r:Nat) (bt:Bool) (hB:B<256) (hr:r<8):bits .or .u8 (B:Int) (wrap64 ((bt.toNat:Int)*2^r)%256)=((B ||| (bt.toNat <<< r):Nat):Int):=by
 have h2:bt.toNat*2^r<256:=by
  have h3:bt.toNat≤1:=Bool.toNat_le bt
  have h4:2^r≤2^7:=Nat.pow_le_pow_right (by decide) (by omega)
  have h5:=Nat.mul_le_mul h3 h4
  omega
 rw [show (bt.toNat:Int)*2^r=((bt.toNat*2^r:Nat):Int) by simp,IntWalk.wrap64_in _ (by omega),show ((bt.toNat*2^r:Nat):Int)%256=((bt.toNat*2^r:Nat):Int) by omega,u8_or_nat B _ hB h2,Nat.shiftLeft_eq]
theorem y9u (a:Option Addr) (cap:Nat) (L:List Bool) (high:Bool) (w:World) (hs:0<L.length→∃b off,a=some ⟨b,off,none⟩∧∀j,j<L.length→w.cell? ⟨b,off+j,none⟩=some (bi (L.getD j false))) (hn:L.length≤1000000000000) :
  Calls Tryz.prog 18 #[.slice a L.length cap,.bool high] w fun e w'=>e=.returned (.slice (some ⟨w.heap.size,0,none⟩) ((L.length+7)/8) ((L.length+7)/8))∧w'.heap[w.heap.size]?=some (.cells ((pk high ((L.length+7)/8) L).map bv).toArray 5 (0,0))∧Below w.heap.size w w':=by
 obtain ⟨i0,hi,hz0,hz1,hz2⟩:=info_parts info5
 have HS:=qz hs
 obtain ⟨M,hM⟩:∃M,M=(L.length+7)/8:=⟨_,rfl⟩
 rw [←hM]
 have hMI:((L.length:Int)+7)/8=(M:Int):=by omega
 have hM1:L.length≤8*M:=by omega
 have hM2:M≤1000000000000:=by omega
 have HM:=qz hM
 clear hs hM
 cases high
 ·go_enter Tryz.func18,Tryz.ntmps18
  go_wp2_with (at_make;go_must (refine wpList_make_full _ rfl _ _ 22 rfl w.heap.size 5 i0 (.int .u8 0) 1 Tryz.underlying22 hi hz0 hz1 _ _ _ _ M rfl rfl (by omega) (by omega) (by rw [hz2];omega) (by unfold maxLen;omega) (Nat.le_refl _) ?_;intro w1 hown hgrow;have HO:=qz (z5k hown rfl).1;have HB:=qz ((Below.refl w.heap.size w).grown hgrow (Nat.le_refl _) (by intro k h;cases h));clear hown hgrow))
  go_loopg [6] L.length (fun gk c ws=>∃i,gk=L.length-i∧i≤L.length∧c=.int .i64 (i:Int)∧ws.heap[w.heap.size]?=some (.cells ((pk false M (L.take i)).map bv).toArray 5 (0,0))∧Below w.heap.size w ws)
  case atStart=>exact ⟨0,by omega,by omega,rfl,by rw [uh HO,y7j false M L],uh HB⟩
  case round =>
   obtain ⟨i,rfl,hil,rfl,hrow,hbel⟩:=hrel
   clear HO HB
   by_cases hlt:i<L.length
   ·obtain ⟨ab,ao,rfl,hcell⟩:=uh HS (by omega)
    have hcl:=z0a hbel (hcell i hlt)
    have habs:ab≠w.heap.size:=by have:=z1e (hcell i hlt);simp at this;omega
    unfold bi at hcl
    have hti:(L.take i).length=i:=by simp;omega
    obtain ⟨q8,hq⟩:∃q8,q8=i/8:=⟨_,rfl⟩
    obtain ⟨r8,hr8⟩:∃r8,r8=i%8:=⟨_,rfl⟩
    have hqM:q8<M:=by omega
    have hr8':r8<8:=by omega
    have hco:wr.cell? ⟨w.heap.size,q8,none⟩=some (.int .u8 (z3u false (L.take i) q8:Int)):=by simp [World.cell?,hrow,pk,hqM,bv]
    have hfo:wr.frozen? ⟨w.heap.size,q8,none⟩=false:=by simp [World.frozen?,hrow]
    have hoc:=z7n false (L.take i) q8
    generalize hB:z3u false (L.take i) q8=B at hco hoc
    generalize hbt:L.getD i false=bt at hcl
    have hb1:=Bool.toNat_le bt
    have hpk:=z8v false (L.take i) bt M
    rw [hti,←hq,←hr8,hB] at hpk
    have htk:L.take (i+1)=L.take i++[bt]:=by rw [List.take_add_one,List.getElem?_eq_getElem hlt,←hbt];simp [hlt]
    rw [←htk] at hpk
    have hrk:rk false 8 r8=r8:=by simp [rk]
    rw [hrk] at hpk
    have HP:=qz hpk
    have HROW:=qz hrow
    have HBEL:=qz hbel
    have hltI:(i:Int)<(L.length:Int):=by omega
    have hdd:Int.tdiv (i:Int) 8=(q8:Int):=by rw [hq];rfl
    have hmm:Int.tmod (i:Int) 8=(r8:Int):=by rw [hr8];rfl
    have hdd':((i:Int)/8)=(q8:Int):=by omega
    have hmm':((i:Int)%8)=(r8:Int):=by omega
    have hqw:IntKind.i64.wrap (q8:Int)=(q8:Int):=IntWalk.i64_in _ (by omega)
    have hqMI:(q8:Int)<(M:Int):=by omega
    have hkw:IntKind.u64.wrap ((r8:Nat):Int)=((r8:Nat):Int):=IntWalk.u64_in _ (by omega)
    clear hq hr8 hB hbt hpk htk hrk hrow hbel hcell hti
    go_wp2_with fail
    refine z6h 18 (by kernel_rfl) (by kernel_rfl) ?_
    simp only [List.take_succ_cons,List.take_zero,List.drop_succ_cons,List.drop_zero]
    repeat still_step
    try refine wpStill_nil ?_
    go_wp2
    rw [w3f B r8 bt hoc (by omega)]
    go_roundg (L.length-(i+1))
    case measure=>omega
    case rel =>
     refine ⟨i+1,rfl,by omega,by go_num,?_,((uh HBEL).setCell (Nat.le_refl _) _).drew⟩
     show (wr.setCell ⟨w.heap.size,q8,none⟩ _).heap[w.heap.size]?=_
     rw [heap_setCell_same wr w.heap.size q8 _ 5 _ (uh HROW),uh HP,←x0v]
     simp [bv]
   ·obtain rfl:i=L.length:=by omega
    have HROW:=qz hrow
    have HBEL:=qz hbel
    clear hrow hbel
    go_wp2
    go_ret
    refine ⟨rfl,?_,uh HBEL⟩
    have h9:=uh HROW
    rw [List.take_length] at h9
    exact h9
 ·go_enter Tryz.func18,Tryz.ntmps18
  go_wp2_with (at_make;go_must (refine wpList_make_full _ rfl _ _ 22 rfl w.heap.size 5 i0 (.int .u8 0) 1 Tryz.underlying22 hi hz0 hz1 _ _ _ _ M rfl rfl (by omega) (by omega) (by rw [hz2];omega) (by unfold maxLen;omega) (Nat.le_refl _) ?_;intro w1 hown hgrow;have HO:=qz (z5k hown rfl).1;have HB:=qz ((Below.refl w.heap.size w).grown hgrow (Nat.le_refl _) (by intro k h;cases h));clear hown hgrow))
  go_loopg [6] L.length (fun gk c ws=>∃i,gk=L.length-i∧i≤L.length∧c=.int .i64 (i:Int)∧ws.heap[w.heap.size]?=some (.cells ((pk true M (L.take i)).map bv).toArray 5 (0,0))∧Below w.heap.size w ws)
  case atStart=>exact ⟨0,by omega,by omega,rfl,by rw [uh HO,y7j true M L],uh HB⟩
  case round =>
   obtain ⟨i,rfl,hil,rfl,hrow,hbel⟩:=hrel
   clear HO HB
   by_cases hlt:i<L.length
   ·obtain ⟨ab,ao,rfl,hcell⟩:=uh HS (by omega)
    have hcl:=z0a hbel (hcell i hlt)
    have habs:ab≠w.heap.size:=by have:=z1e (hcell i hlt);simp at this;omega
    unfold bi at hcl
    have hti:(L.take i).length=i:=by simp;omega
    obtain ⟨q8,hq⟩:∃q8,q8=i/8:=⟨_,rfl⟩
    obtain ⟨r8,hr8⟩:∃r8,r8=i%8:=⟨_,rfl⟩
    have hqM:q8<M:=by omega
    have hr8':r8<8:=by omega
    have hco:wr.cell? ⟨w.heap.size,q8,none⟩=some (.int .u8 (z3u true (L.take i) q8:Int)):=by simp [World.cell?,hrow,pk,hqM,bv]
    have hfo:wr.frozen? ⟨w.heap.size,q8,none⟩=false:=by simp [World.frozen?,hrow]
    have hoc:=z7n true (L.take i) q8
    generalize hB:z3u true (L.take i) q8=B at hco hoc
    generalize hbt:L.getD i false=bt at hcl
    have hb1:=Bool.toNat_le bt
    have hpk:=z8v true (L.take i) bt M
    rw [hti,←hq,←hr8,hB] at hpk
    have htk:L.take (i+1)=L.take i++[bt]:=by rw [List.take_add_one,List.getElem?_eq_getElem hlt,←hbt];simp [hlt]
    rw [←htk] at hpk
    have hrk:rk true 8 r8=(7-r8):=by simp [rk]
    rw [hrk] at hpk
    have HP:=qz hpk
    have HROW:=qz hrow
    have HBEL:=qz hbel
    have hltI:(i:Int)<(L.length:Int):=by omega
    have hdd:Int.tdiv (i:Int) 8=(q8:Int):=by rw [hq];rfl
    have hmm:Int.tmod (i:Int) 8=(r8:Int):=by rw [hr8];rfl
    have hdd':((i:Int)/8)=(q8:Int):=by omega
    have hmm':((i:Int)%8)=(r8:Int):=by omega
    have hqw:IntKind.i64.wrap (q8:Int)=(q8:Int):=IntWalk.i64_in _ (by omega)
    have hqMI:(q8:Int)<(M:Int):=by omega
    have hkw:IntKind.u64.wrap (((7-r8):Nat):Int)=(((7-r8):Nat):Int):=IntWalk.u64_in _ (by omega)
    clear hq hr8 hB hbt hpk htk hrk hrow hbel hcell hti
    go_wp2_with fail
    refine z6h 18 (by kernel_rfl) (by kernel_rfl) ?_
    simp only [List.take_succ_cons,List.take_zero,List.drop_succ_cons,List.drop_zero]
    repeat still_step
    try refine wpStill_nil ?_
    go_wp2
    rw [show min (7-r8) 64=7-r8 by omega,w3f B (7-r8) bt hoc (by omega)]
    go_roundg (L.length-(i+1))
    case measure=>omega
    case rel =>
     refine ⟨i+1,rfl,by omega,by go_num,?_,((uh HBEL).setCell (Nat.le_refl _) _).drew⟩
     show (wr.setCell ⟨w.heap.size,q8,none⟩ _).heap[w.heap.size]?=_
     rw [heap_setCell_same wr w.heap.size q8 _ 5 _ (uh HROW),uh HP,←x0v]
     simp [bv]
   ·obtain rfl:i=L.length:=by omega
    have HROW:=qz hrow
    have HBEL:=qz hbel
    clear hrow hbel
    go_wp2
    go_ret
    refine ⟨rfl,?_,uh HBEL⟩
    have h9:=uh HROW
    rw [List.take_length] at h9
    exact h9
end R8
namespace R8
open Go.RowKit Infl Mth Defl
theorem St.form {w0 w:World} {v:Value} {xs:List Value} (h:St w0 w v xs) (n:Nat) (hn:xs.length=n) (h0:0<n):∃g cp,v=.slice (some ⟨g,0,none⟩) n cp:=by
 have h':=h.own
 rw [hn] at h'
 obtain ⟨g,cp,e,_,_⟩:=h'.form h0
 exact ⟨g,cp,e⟩
def padN (p:Nat):Nat:=(p+7)/8*8-p
def y0w (last:Bool) (kind:Nat):List Bool:=bitsOf false last.toNat 1++bitsOf false kind 2
theorem z6p (last:Bool) (kind:Nat):(y0w last kind).length=3:=by simp [y0w,bitsOf]
def y6i (c:List Nat) (last:Bool) (p:Nat):List Bool :=
 ((y0w last 0++List.replicate (padN (p+3)) false)++bitsOf false c.length 16)++bitsOf false (65535-c.length) 16++(List.range (8*c.length)).map (z4y false c)
theorem x3r (c:List Nat) (v:Value) (last:Bool) (p:Nat) (w:World) (hr:Reads w v c) (hc:c.length≤65535) (hs:∀z∈c,z<256) (hp:p≤1000000000000) :
  Calls Tryz.prog 15 #[v,.bool last,.int .i64 (p:Int)] w fun e w'=>∃lv,e=.returned lv∧St w w' lv ((y6i c last p).map bi):=by
 obtain ⟨a,cap,rfl,hsrc⟩:=hr.spot
 have HR:=qz hr
 have HSM:=qz hs
 obtain ⟨N,hN⟩:∃N,N=c.length:=⟨_,rfl⟩
 obtain ⟨P,hP⟩:∃P,P=padN (p+3):=⟨_,rfl⟩
 have hP8:P<8:=by rw [hP,padN];omega
 have HP:=qz hP
 rw [←hN] at hc HR ⊢
 have HN:=qz hN
 clear hsrc hr hs hN hP
 go_enter Tryz.func15,Tryz.ntmps15
 go_wp2_with fail
 refine (y5y last 0 w (by omega)).mono ?_
 rintro e w1 ⟨l1,rfl,h1⟩
 have H1:=qz h1
 clear h1
 go_wp2_with fail
 go_loopg [7] P (fun gk o ws=>∃k,gk=P-k∧k≤P∧Hid (St w ws o ((y0w last 0++List.replicate k false).map bi)))
 case atStart=>exact ⟨0,by omega,by omega,qz (by rw [List.replicate_zero,List.append_nil];exact uh H1)⟩
 case round =>
  obtain ⟨k,rfl,hk,HSt⟩:=hrel
  obtain ⟨m,hm⟩:∃m,m=k+3:=⟨_,rfl⟩
  obtain ⟨g,cp,rfl⟩:=(uh HSt).form m (by rw [List.length_map,List.length_append,z6p,List.length_replicate];omega) (by omega)
  obtain ⟨r,hrm⟩:∃r,r=(p+m)%8:=⟨_,rfl⟩
  have t1:((p:Int)+(m:Int))%8=(r:Int):=by omega
  have hm10:m≤11:=by omega
  by_cases hkP:k<P
  ·have hr0:r≠0:=by have:=uh HP;unfold padN at this;omega
   have t2:((r:Int) == 0)=false:=by simp;omega
   have HB:Hid ((wr.alloc (.cells #[bi false] 3)).ownsRow wr.heap.size 3 1 (.slice (some ⟨wr.heap.size,0,none⟩) 1 1) 1 [bi false]):=qz (World.ownsRow_lit wr #[bi false] 1 (Nat.le_refl _) (by decide) rfl)
   have hlk:((y0w last 0++List.replicate k false).map bi).length≤11:=by rw [List.length_map,List.length_append,z6p,List.length_replicate];omega
   have HLK:=qz hlk
   clear hrm hm hlk
   go_wp2_with (at_builtin;refine z1y rfl _ _ rfl (.slice (some ⟨g,0,none⟩) m cp) (.slice (some ⟨wr.heap.size,0,none⟩) 1 1) _ [bi false] wr.heap.size (by rfl) (by rfl) ((uh HSt).alloc _) (uh HB) (by intro u hu;simp at hu;subst hu;rfl) (by have:=uh HLK;simp only [List.length_singleton];omega) ?_;intro v2 w2 h2 _;have H2:=qz h2;clear h2)
   go_roundg (P-(k+1))
   case measure=>omega
   case rel=>exact ⟨k+1,rfl,by omega,qz (by rw [List.replicate_succ',←List.append_assoc,List.map_append];exact uh H2)⟩
  ·have hr0:r=0:=by have:=uh HP;unfold padN at this;omega
   have t2:((r:Int) == 0)=true:=by simp;omega
   obtain rfl:k=P:=by omega
   have HLK:Hid (((y0w last 0++List.replicate k false).map bi).length≤11):=qz (by rw [List.length_map,List.length_append,z6p,List.length_replicate];omega)
   clear hrm hm
   rename World=>wo
   go_wp2_with fail
   refine (z4g N 16 wo (by omega) (by omega)).mono ?_
   rintro e w2 ⟨l2,rfl,h2⟩
   have H2:=qz h2
   clear h2
   go_wp2_with (at_builtin;refine z1y rfl _ _ rfl (.slice (some ⟨g,0,none⟩) m cp) l2 _ _ _ (by rfl) (by rfl) ((uh HSt).later (uh H2).bel) (uh H2).own (z2p _) (by have:=uh HLK;simp only [List.length_map,z0s] at this ⊢;omega) ?_;intro v3 w3 h3 _;have H3:=qz h3;clear h3)
   rw [show ((65535:Int)-(N:Int))=((65535-N:Nat):Int) from by omega]
   refine (z4g (65535-N) 16 w3 (by omega) (by omega)).mono ?_
   rintro e w4 ⟨l4,rfl,h4⟩
   have H4:=qz h4
   clear h4
   go_wp2_with (at_builtin;refine z1y rfl _ _ rfl v3 l4 _ _ _ (by rfl) (by rfl) ((uh H3).later (uh H4).bel) (uh H4).own (z2p _) (by have:=uh HLK;simp only [List.length_map,List.length_append,z0s] at this ⊢;omega) ?_;intro v5 w5 h5 _;have H5:=qz h5;clear h5)
   have H6:=uh HR
   refine (w6x (.slice a N cap) c false w5 (Reads.stays (uh H5).bel (uh HR)) (by rw [←uh HN];omega) (uh HSM)).mono ?_
   rintro e w6 ⟨l6,rfl,h6,h6b⟩
   have H6:Hid (w6.ownsRow w5.heap.size 3 1 l6 (((List.range (8*c.length)).map (z4y false c)).map bi).length (((List.range (8*c.length)).map (z4y false c)).map bi)):=qz (by rw [List.length_map,List.length_map,List.length_range,List.map_map];exact h6)
   have H6b:=qz h6b
   clear h6 h6b
   go_wp2_with (at_builtin;refine z1y rfl _ _ rfl v5 l6 _ _ _ (by rfl) (by rfl) ((uh H5).later (uh H6b)) (uh H6) (z2p _) (by have:=uh HLK;have:=uh HN;simp only [List.length_map,List.length_append,z0s,List.length_range] at *;omega) ?_;intro v7 w7 h7 _;have H7:=qz h7;clear h7)
   go_ret
   refine ⟨v7,rfl,?_⟩
   have h7:=uh H7
   rw [←List.map_append,←List.map_append,←List.map_append] at h7
   rw [y6i,←uh HP,←uh HN]
   rw [←uh HN] at h7
   exact h7
end R8
namespace R8
open Go.RowKit Mth
theorem x8l (ls:List Nat) (rg n s:Nat) (w:World) (hg:Good ls) (hlen:ls.length=n) (hs:s<n) (h0:0<Canon.ln ls s) (hw:z0f w 130 rg n (wdz ls) (Canon.ln ls)) :
  Calls Tryz.prog 46 #[.slice (some ⟨rg,0,none⟩) n n,.int .i64 (s:Int)] w fun e w'=>∃lv,e=.returned lv∧w'.ownsRow w.heap.size 3 1 lv (Canon.ln ls s) ((bitsOf true (Canon.wd ls s) (Canon.ln ls s)).map bi)∧Below w.heap.size w w':=by
 have hh:=hg.has (i:=s) (by omega) h0
 have hl20:=hh.2.2
 have hwd:=Canon.y8i hh hg.sum
 have k1:=hw.word s hs
 have k2:=hw.len s hs
 rw [show wdz ls s=Canon.wd ls s from if_neg (by omega)] at k1
 have hW:Canon.wd ls s<1048576:=Nat.lt_of_lt_of_le hwd (Nat.pow_le_pow_right (by decide) hl20)
 generalize Canon.wd ls s=W at *
 generalize Canon.ln ls s=L at *
 have hsn:(s:Int)<(n:Int):=by omega
 have HB:=qz (y8q W L true w.drew (by omega) (by omega))
 have hu:IntKind.u64.wrap (W:Int)=(W:Int):=IntWalk.u64_in _ (by omega)
 clear hh hwd hw
 go_enter Tryz.func46,Tryz.ntmps46
 go_wp2_with fail
 refine z6h 11 (by kernel_rfl) (by kernel_rfl) ?_
 simp only [List.take_succ_cons,List.take_zero,List.drop_succ_cons,List.drop_zero]
 repeat still_step
 try refine wpStill_nil ?_
 go_wp2_with (go_at_call 68;go_must (refine (uh HB).mono ?_;rintro e w' ⟨lv,rfl,h1,h2⟩;have H1:=qz h1;have H2:=qz h2;clear h1 h2))
 go_ret
 exact ⟨lv,rfl,uh H1,⟨(uh H2).os,(uh H2).tape,(uh H2).output,(uh H2).size,(uh H2).block⟩⟩
end R8
namespace Infl
def bitsOf (l:List Nat):In:=⟨fun i=>(l.getD (i/8) 0).testBit (i%8),l.length⟩
def blk (last:Nat) (c:List Nat):List Nat:=[last,c.length%256,c.length/256,255-c.length%256,255-c.length/256]++c
section
variable {g:List Nat→(Nat→Bool)→Nat→Nat × Nat × Nat} {ce:List Nat→Nat→Bool→Nat}
def pack:List (List Nat)→List Nat
 | []=>[]
 | [c]=>blk 1 c
 | c :: d :: cs=>blk 0 c++pack (d :: cs)
end
end Infl
namespace Infl
theorem z8e:Good z1b:=⟨by decide +kernel,by decide +kernel⟩
theorem y1q:Good z1c:=⟨by decide +kernel,by decide +kernel⟩
theorem y1r:Canon.sum z1b=1048576:=by decide +kernel
theorem y1p:Canon.sum z1c=1048576:=by decide +kernel
end Infl
namespace Infl
theorem y1x {A B:List Nat} (h:A.length=B.length) (h2:∀i,i<A.length→A.getD i 0=B.getD i 0):A=B:=by
 apply List.ext_getElem h
 intro i h1 h3
 have:=h2 i h1
 simpa [h1,h3] using this
theorem z1f (P:List Nat) (f n i:Nat) (h:i<n):((P.drop f).take n).getD i 0=P.getD (f+i) 0:=by
 simp only [List.getD_eq_getElem?_getD]
 rw [List.getElem?_take,if_pos h,List.getElem?_drop]
end Infl
namespace Infl
def nb (v n:Nat):List Bool:=(List.range n).map fun i=>v.testBit i
def wb (ls:List Nat) (s:Nat):List Bool:=(List.range (Canon.ln ls s)).map fun j=>(Canon.wd ls s).testBit (Canon.ln ls s-1-j)
theorem z0g (v n:Nat):(nb v n).length=n:=by simp [nb]
theorem z1i (ls:List Nat) (s:Nat):(wb ls s).length=Canon.ln ls s:=by simp [wb]
structure T where
 n:Nat
 d:Nat
 b:Nat
def T.ext (out:List Nat) (t:T):List Nat:=if t.n=0 then out++[t.b] else cp t.d t.n out
def T.ok (out:List Nat) (t:T):Prop:=(t.n=0∧t.b<256)∨(3≤t.n∧t.n≤258∧1≤t.d∧t.d≤32768∧t.d≤out.length)
def T.bits (l1 l2:List Nat) (t:T):List Bool :=
 if t.n=0 then wb l1 t.b else wb l1 (symL t.n)++(nb (t.n-(lenOf (symL t.n)).1) (lenOf (symL t.n)).2++(wb l2 (symD t.d)++nb (t.d-(z0h (symD t.d)).1) (z0h (symD t.d)).2))
def T.has (l1 l2:List Nat) (t:T):Prop :=
 if t.n=0 then t.b<l1.length∧0<Canon.ln l1 t.b else (symL t.n<l1.length∧0<Canon.ln l1 (symL t.n))∧(symD t.d<l2.length∧0<Canon.ln l2 (symD t.d))
def exts:List Nat→List T→List Nat
 | out,[]=>out
 | out,t :: ts=>exts (t.ext out) ts
def z2h (l1 l2:List Nat) (ts:List T):List Bool:=(ts.map (T.bits l1 l2)).flatten
end Infl
namespace R8
open Go.RowKit Infl Mth Defl
set_option linter.unusedSimpArgs false
theorem z3s (v n:Nat):Mth.bitsOf false v n=nb v n:=by simp [Mth.bitsOf,nb,rk]
theorem x0k (ls:List Nat) (s:Nat):Mth.bitsOf true (Canon.wd ls s) (Canon.ln ls s)=wb ls s:=by simp [Mth.bitsOf,wb,rk]
theorem y9z (ls:List Nat) (rg n s:Nat) (w:World) (hg:Good ls) (hlen:ls.length=n) (hs:s<n) (h0:0<Canon.ln ls s) (hw:z0f w 130 rg n (wdz ls) (Canon.ln ls)) :
  Calls Tryz.prog 46 #[.slice (some ⟨rg,0,none⟩) n n,.int .i64 (s:Int)] w fun e w'=>∃lv,e=.returned lv∧St w w' lv ((wb ls s).map bi):=by
 refine (x8l ls rg n s w hg hlen hs h0 hw).mono ?_
 rintro e w' ⟨lv,rfl,h1,h2⟩
 exact ⟨lv,rfl,by rw [←x0k,List.length_map,z0s];exact h1,h2⟩
theorem x1n (v n:Nat) (w:World) (hv:v<2^64) (hn:n≤64) :
  Calls Tryz.prog 68 #[.int .u64 (v:Int),.int .i64 (n:Int),.bool false] w fun e w'=>∃lv,e=.returned lv∧St w w' lv ((nb v n).map bi):=by
 refine (y8q v n false w hv hn).mono ?_
 rintro e w' ⟨lv,rfl,h1,h2⟩
 exact ⟨lv,rfl,by rw [←z3s,List.length_map,z0s];exact h1,h2⟩
def z4m (w:World) (v:Value) (ts:List T):Prop :=
 ∃a cap,v=.slice a ts.length cap∧(0<ts.length→∃b off,a=some ⟨b,off,none⟩∧∀j,j<ts.length →
  w.cell? ⟨b,off+j*3,none⟩=some (.int .i64 ((ts.getD j ⟨0,0,0⟩).n:Int))∧w.cell? ⟨b,off+j*3+1,none⟩=some (.int .i64 ((ts.getD j ⟨0,0,0⟩).d:Int))∧w.cell? ⟨b,off+j*3+2,none⟩=some (.int .u8 ((ts.getD j ⟨0,0,0⟩).b:Int)))
def _root_.Go.Proofs.YtabeanealkopbaaGreat.Infl.T.fit (t:T):Prop:=t.n=0∧t.b<256∨3≤t.n∧t.n≤258∧1≤t.d∧t.d≤32768
theorem y4b (l1 l2:List Nat) (ts:List T) (i:Nat) (h:i<ts.length):z2h l1 l2 (ts.take (i+1))=z2h l1 l2 (ts.take i)++(ts.getD i ⟨0,0,0⟩).bits l1 l2:=by
 have e:ts.take (i+1)=ts.take i++[ts.getD i ⟨0,0,0⟩]:=by
  rw [List.take_add_one,List.getElem?_eq_getElem h,List.getD_eq_getElem?_getD,List.getElem?_eq_getElem h];rfl
 rw [e]
 simp [z2h]
theorem z6b:∀i,i<29→(lenOf (257+i)).2≤5:=by decide
theorem z5g:∀s,s<30→(z0h s).2≤13:=by decide
theorem z2d {ls:List Nat} (h:Good ls) (s:Nat):Canon.ln ls s≤20:=by
 rw [Canon.ln,List.getD_eq_getElem?_getD]
 by_cases hs:s<ls.length
 ·rw [List.getElem?_eq_getElem hs];exact h.small _ (List.getElem_mem _)
 ·rw [List.getElem?_eq_none (by omega)];exact Nat.zero_le _
theorem x2l {l1 l2:List Nat} (h1:Good l1) (h2:Good l2) {t:T} (ht:t.fit):(t.bits l1 l2).length≤64:=by
 unfold T.bits
 by_cases h0:t.n=0
 ·rw [if_pos h0,z1i];have:=z2d h1 t.b;omega
 ·rw [if_neg h0]
  simp only [List.length_append,z1i,z0g]
  obtain ⟨a,b,c,d⟩:3≤t.n∧t.n≤258∧1≤t.d∧t.d≤32768:=by rcases ht with x|x;exact absurd x.1 h0;exact x
  have e1:=z2d h1 (symL t.n)
  have e2:=z2d h2 (symD t.d)
  obtain ⟨s1,s2,_,_⟩:=z6z t.n a b
  obtain ⟨s3,_,_⟩:=z6y t.d c d
  have e3:=z6b (symL t.n-257) (by omega)
  rw [show 257+(symL t.n-257)=symL t.n from by omega] at e3
  have e4:=z5g (symD t.d) (by omega)
  omega
theorem z6g {l1 l2:List Nat} (h1:Good l1) (h2:Good l2) {ts:List T} (ht:∀t∈ts,t.fit):∀i,i≤ts.length→(z2h l1 l2 (ts.take i)).length≤64*i
 | 0,_=>by simp [z2h]
 | i+1,h=>by
  rw [y4b l1 l2 ts i (by omega),List.length_append]
  have:=z6g h1 h2 ht i (by omega)
  have hm:ts.getD i ⟨0,0,0⟩∈ts:=by rw [List.getD_eq_getElem?_getD,List.getElem?_eq_getElem (show i<ts.length by omega)];exact List.getElem_mem _
  have:=x2l h1 h2 (ht _ hm)
  omega
theorem w3j (n s m:Nat) (w:World) (h1:3≤n) (h2:n≤258) (hs:s=symL n) (hm:m=n-(lenOf s).1) :
  Calls Tryz.prog 40 #[.int .i64 (n:Int)] w fun e w'=>e=.returned (.tuple #[.int .i64 (s:Int),.int .i64 (m:Int),.int .i64 0])∧w'=w:=by
 refine (w4y (n:Int) w).mono ?_
 rintro e w' ⟨rfl,rfl⟩
 rw [x9d,if_neg (by omega),Int.toNat_natCast,hm,hs]
 exact ⟨rfl,rfl⟩
theorem w3i (n s m:Nat) (w:World) (h1:1≤n) (h2:n≤32768) (hs:s=symD n) (hm:m=n-(z0h s).1) :
  Calls Tryz.prog 41 #[.int .i64 (n:Int)] w fun e w'=>e=.returned (.tuple #[.int .i64 (s:Int),.int .i64 (m:Int),.int .i64 0])∧w'=w:=by
 refine (w4w (n:Int) w).mono ?_
 rintro e w' ⟨rfl,rfl⟩
 rw [x5u,if_neg (by omega),Int.toNat_natCast,hm,hs]
 exact ⟨rfl,rfl⟩
theorem w6k (s x y:Nat) (w:World) (h1:257≤s) (h2:s≤285) (hx:x=(lenOf s).1) (hy:y=(lenOf s).2) :
  Calls Tryz.prog 69 #[.int .i64 (s:Int)] w fun e w'=>e=.returned (.tuple #[.int .i64 (x:Int),.int .i64 (y:Int),.int .i64 0])∧w'=w:=by
 refine (x8o (s:Int) w).mono ?_
 rintro e w' ⟨rfl,rfl⟩
 rw [y0n,if_neg (by omega),Int.toNat_natCast,hx,hy]
 exact ⟨rfl,rfl⟩
theorem w4v (s x y:Nat) (w:World) (h2:s≤29) (hx:x=(z0h s).1) (hy:y=(z0h s).2) :
  Calls Tryz.prog 70 #[.int .i64 (s:Int)] w fun e w'=>e=.returned (.tuple #[.int .i64 (x:Int),.int .i64 (y:Int),.int .i64 0])∧w'=w:=by
 refine (x1o (s:Int) w).mono ?_
 rintro e w' ⟨rfl,rfl⟩
 rw [z6m,if_neg (by omega),Int.toNat_natCast,hx,hy]
 exact ⟨rfl,rfl⟩
theorem x1s (ts:List T) (l1 l2:List Nat) (v:Value) (g1 g2:Nat) (w:World) (hr:z4m w v ts) (hg1:Good l1) (hg2:Good l2) (hw1:z0f w 130 g1 l1.length (wdz l1) (Canon.ln l1)) (hw2:z0f w 130 g2 l2.length (wdz l2) (Canon.ln l2))
  (hfit:∀t∈ts,t.fit) (hhas:∀t∈ts,t.has l1 l2) (h256:256<l1.length∧0<Canon.ln l1 256) (hlen:ts.length≤1048576) :
  Calls Tryz.prog 39 #[v,.slice (some ⟨g1,0,none⟩) l1.length l1.length,.slice (some ⟨g2,0,none⟩) l2.length l2.length] w fun e w'=>∃lv,e=.returned lv∧St w w' lv ((z2h l1 l2 ts++wb l1 256).map bi):=by
 obtain ⟨av,cap,rfl,hcells⟩:=hr
 obtain ⟨N,hN⟩:∃N,N=ts.length:=⟨_,rfl⟩
 obtain ⟨n1,hn1⟩:∃n1,n1=l1.length:=⟨_,rfl⟩
 obtain ⟨n2,hn2⟩:∃n2,n2=l2.length:=⟨_,rfl⟩
 have HP1:Hid (∀ws s,Below w.heap.size w ws→s<n1→0<Canon.ln l1 s→Calls Tryz.prog 46 #[.slice (some ⟨g1,0,none⟩) n1 n1,.int .i64 (s:Int)] ws fun e w'=>∃lv,e=.returned lv∧St ws w' lv ((wb l1 s).map bi)):=qz fun ws s hb hs h0 =>
  y9z l1 g1 n1 s ws hg1 hn1.symm hs h0 (by rw [hn1];exact hw1.stays hb (z0b hw1))
 have HP2:Hid (∀ws s,Below w.heap.size w ws→s<n2→0<Canon.ln l2 s→Calls Tryz.prog 46 #[.slice (some ⟨g2,0,none⟩) n2 n2,.int .i64 (s:Int)] ws fun e w'=>∃lv,e=.returned lv∧St ws w' lv ((wb l2 s).map bi)):=qz fun ws s hb hs h0 =>
  y9z l2 g2 n2 s ws hg2 hn2.symm hs h0 (by rw [hn2];exact hw2.stays hb (z0b hw2))
 have HG:=qz (And.intro hg1 hg2)
 have HF:=qz hfit
 have HH:=qz hhas
 have HCELLS:=qz hcells
 rw [←hN] at hlen ⊢
 rw [←hn1] at h256 ⊢
 rw [←hn2]
 have HNN:=qz hN
 have HN1:=qz hn1
 have HN2:=qz hn2
 have H256:=qz h256
 clear hcells hN hn1 hn2 hw1 hw2 hg1 hg2 hfit hhas h256
 go_enter Tryz.func39,Tryz.ntmps39
 go_wp2_with fail
 go_loopg [7,8] N (fun gk o c ws=>∃i:Nat,gk=N-i∧i≤N∧c=.int .i64 (i:Int)∧Hid (St w ws o ((z2h l1 l2 (ts.take i)).map bi)))
 case atStart=>exact ⟨0,by omega,by omega,rfl,qz (by simpa [z2h] using St.nil w)⟩
 case round =>
  obtain ⟨i,rfl,hiN,rfl,HSt⟩:=hrel
  rename World=>wo
  have HSM:Hid (((z2h l1 l2 (ts.take i)).map bi).length≤64*i):=qz (by rw [List.length_map];exact z6g (uh HG).1 (uh HG).2 (uh HF) i (by rw [←uh HNN];exact hiN))
  by_cases hlt:i<N
  ·have tlt:(i:Int)<(N:Int):=by omega
   obtain ⟨b,off,rfl,hc0⟩:=uh HCELLS (by rw [←uh HNN];omega)
   obtain ⟨k1,k2,k3⟩:=hc0 i (by rw [←uh HNN];omega)
   have hmem:ts.getD i ⟨0,0,0⟩∈ts:=by rw [List.getD_eq_getElem?_getD,List.getElem?_eq_getElem (show i<ts.length by rw [←uh HNN];exact hlt)];exact List.getElem_mem _
   have hf:=uh HF _ hmem
   have hh:=uh HH _ hmem
   have HSN:=qz (y4b l1 l2 ts i (by rw [←uh HNN];exact hlt))
   generalize ts.getD i ⟨0,0,0⟩=t at k1 k2 k3 hf hh HSN hmem
   have c1:=z0a (uh HSt).bel k1
   have c2:=z0a (uh HSt).bel k2
   have c3:=z0a (uh HSt).bel k3
   have HK2:=qz k2
   clear k1 k2 k3 hc0 hmem
   by_cases h0:t.n=0
   ·have hb256:t.b<256:=by rcases hf with x|x;exact x.2;omega
    unfold T.has at hh
    rw [if_pos h0] at hh
    have HHH:=qz hh
    rw [show T.bits l1 l2 t=wb l1 t.b from if_pos h0] at HSN
    rw [h0] at c1
    generalize t.b=B at *
    clear hh hf h0
    go_wp2_with fail
    refine (uh HP1 wo B (uh HSt).bel (by rw [uh HN1];exact (uh HHH).1) (uh HHH).2).mono ?_
    rintro e w2 ⟨lv2,rfl,h2⟩
    have H2:=qz h2
    clear h2
    go_wp2_with (at_builtin;refine z1y rfl _ _ rfl _ lv2 _ _ _ (by rfl) (by rfl) ((uh HSt).later (uh H2).bel) (uh H2).own (z2p _) (by have q1:=uh HSM;have q2:=z2d (uh HG).1 B;simp only [List.length_map,z1i] at q1 ⊢;omega) ?_;intro v3 w3 h3 _;have H3:=qz h3;clear h3)
    go_roundg (N-(i+1))
    case measure=>omega
    case rel=>exact ⟨i+1,rfl,by omega,by go_num,qz (by rw [uh HSN,List.map_append];exact uh H3)⟩
   ·obtain ⟨f1,f2,f3,f4⟩:3≤t.n∧t.n≤258∧1≤t.d∧t.d≤32768:=by rcases hf with x|x;exact absurd x.1 h0;exact x
    unfold T.has at hh
    rw [if_neg h0] at hh
    obtain ⟨s,hs⟩:∃s,s=symL t.n:=⟨_,rfl⟩
    obtain ⟨d,hd⟩:∃d,d=symD t.d:=⟨_,rfl⟩
    obtain ⟨s1,s2,s3,s4⟩:=z6z t.n f1 f2
    obtain ⟨d1,d2,d3⟩:=z6y t.d f3 f4
    have e3:=z6b (symL t.n-257) (by omega)
    rw [show 257+(symL t.n-257)=symL t.n from by omega] at e3
    have e4:=z5g (symD t.d) (by omega)
    rw [T.bits,if_neg h0] at HSN
    rw [←hs] at hh s1 s2 s3 s4 e3 HSN
    rw [←hd] at hh d1 d2 d3 e4 HSN
    obtain ⟨x,hx⟩:∃x,x=(lenOf s).1:=⟨_,rfl⟩
    obtain ⟨y,hy⟩:∃y,y=(lenOf s).2:=⟨_,rfl⟩
    obtain ⟨x2,hx2⟩:∃x,x=(z0h d).1:=⟨_,rfl⟩
    obtain ⟨y2,hy2⟩:∃y,y=(z0h d).2:=⟨_,rfl⟩
    obtain ⟨m,hm⟩:∃m,m=t.n-(lenOf s).1:=⟨_,rfl⟩
    obtain ⟨m2,hm2⟩:∃m,m=t.d-(z0h d).1:=⟨_,rfl⟩
    have HC1:=qz fun ws=>w3j t.n s m ws f1 f2 hs hm
    have HC2:=qz fun ws=>w6k s x y ws s1 s2 hx hy
    have HC3:=qz fun ws=>w3i t.d d m2 ws f3 f4 hd hm2
    have HC4:=qz fun ws=>w4v d x2 y2 ws d1 hx2 hy2
    rw [←hm,←hm2,←hy,←hy2] at HSN
    rw [←hy] at e3
    rw [←hy2] at e4
    have hml:m≤258:=by omega
    have hml2:m2≤32768:=by omega
    have HHH:=qz hh
    have hn0:((t.n:Int) == 0)=false:=by simp;omega
    clear hs hd hx hy hx2 hy2 hm hm2 hh hf s3 s4 d2 d3
    generalize t.n=tn at *
    generalize t.d=td at *
    clear f1 f2 f3 f4
    have tm:(m:Int)%18446744073709551616=(m:Int):=by omega
    have tm2:(m2:Int)%18446744073709551616=(m2:Int):=by omega
    go_wp2_with fail
    refine (uh HC1 wo).mono ?_
    rintro e w' ⟨rfl,hw'⟩
    rw [hw']
    clear hw' w'
    go_wp2_with fail
    refine (uh HC2 wo).mono ?_
    rintro e w' ⟨rfl,hw'⟩
    rw [hw']
    clear hw' w'
    go_wp2_with fail
    refine (uh HP1 wo s (uh HSt).bel (by rw [uh HN1];exact (uh HHH).1.1) (uh HHH).1.2).mono ?_
    rintro e w2 ⟨lv2,rfl,h2⟩
    have H2:=qz h2
    clear h2
    go_wp2_with (at_builtin;refine z1y rfl _ _ rfl _ lv2 _ _ _ (by rfl) (by rfl) ((uh HSt).later (uh H2).bel) (uh H2).own (z2p _) (by have q1:=uh HSM;have q2:=z2d (uh HG).1 s;have q3:=z2d (uh HG).2 d;simp only [List.length_append,List.length_map,z1i,z0g] at q1 ⊢;omega) ?_;intro v3 w3 h3 _;have H3:=qz h3;clear h3)
    refine (x1n m y w3 (by omega) (by omega)).mono ?_
    rintro e w4 ⟨lv4,rfl,h4⟩
    have H4:=qz h4
    clear h4
    go_wp2_with (at_builtin;refine z1y rfl _ _ rfl v3 lv4 _ _ _ (by rfl) (by rfl) ((uh H3).later (uh H4).bel) (uh H4).own (z2p _) (by have q1:=uh HSM;have q2:=z2d (uh HG).1 s;have q3:=z2d (uh HG).2 d;simp only [List.length_append,List.length_map,z1i,z0g] at q1 ⊢;omega) ?_;intro v5 w5 h5 _;have H5:=qz h5;have c2':=z0a h5.bel (uh HK2);clear h5)
    refine (uh HC3 w5).mono ?_
    rintro e w' ⟨rfl,hw'⟩
    rw [hw']
    clear hw' w'
    go_wp2_with fail
    refine (uh HC4 w5).mono ?_
    rintro e w' ⟨rfl,hw'⟩
    rw [hw']
    clear hw' w'
    go_wp2_with fail
    refine (uh HP2 w5 d (uh H5).bel (by rw [uh HN2];exact (uh HHH).2.1) (uh HHH).2.2).mono ?_
    rintro e w6 ⟨lv6,rfl,h6⟩
    have H6:=qz h6
    clear h6
    go_wp2_with (at_builtin;refine z1y rfl _ _ rfl v5 lv6 _ _ _ (by rfl) (by rfl) ((uh H5).later (uh H6).bel) (uh H6).own (z2p _) (by have q1:=uh HSM;have q2:=z2d (uh HG).1 s;have q3:=z2d (uh HG).2 d;simp only [List.length_append,List.length_map,z1i,z0g] at q1 ⊢;omega) ?_;intro v7 w7 h7 _;have H7:=qz h7;clear h7)
    refine (x1n m2 y2 w7 (by omega) (by omega)).mono ?_
    rintro e w8 ⟨lv8,rfl,h8⟩
    have H8:=qz h8
    clear h8
    go_wp2_with (at_builtin;refine z1y rfl _ _ rfl v7 lv8 _ _ _ (by rfl) (by rfl) ((uh H7).later (uh H8).bel) (uh H8).own (z2p _) (by have q1:=uh HSM;have q2:=z2d (uh HG).1 s;have q3:=z2d (uh HG).2 d;simp only [List.length_append,List.length_map,z1i,z0g] at q1 ⊢;omega) ?_;intro v9 w9 h9 _;have H9:=qz h9;clear h9)
    go_roundg (N-(i+1))
    case measure=>omega
    case rel=>exact ⟨i+1,rfl,by omega,by go_num,qz (by have h9:=uh H9;simp only [←List.map_append,List.append_assoc] at h9;rw [uh HSN];exact h9)⟩
  ·obtain rfl:i=N:=by omega
   have tlt:¬ (i:Int)<(i:Int):=by omega
   go_wp2_with fail
   refine (uh HP1 wo 256 (uh HSt).bel (uh H256).1 (uh H256).2).mono ?_
   rintro e w2 ⟨lv2,rfl,h2⟩
   have H2:=qz h2
   clear h2
   go_wp2_with (at_builtin;refine z1y rfl _ _ rfl _ lv2 _ _ _ (by rfl) (by rfl) ((uh HSt).later (uh H2).bel) (uh H2).own (z2p _) (by have q1:=uh HSM;have q2:=z2d (uh HG).1 256;simp only [List.length_map,z1i] at q1 ⊢;omega) ?_;intro v3 w3 h3 _;have H3:=qz h3;clear h3)
   go_ret
   refine ⟨v3,rfl,?_⟩
   have h3:=uh H3
   rw [List.take_of_length_le (by rw [←uh HNN];omega),←List.map_append] at h3
   exact h3
end R8
namespace R8
open Go.RowKit Infl Mth Defl
set_option linter.unusedSimpArgs false
def inl (l:List Nat):List Int:=l.map fun z:Nat=>(z:Int)
theorem z3b (l:List Nat):(inl l).length=l.length:=by simp [inl]
theorem x7e (l:List Nat):nat (inl l)=l:=by simp [nat,inl,List.map_map,Function.comp_def]
theorem w0z (l:List Nat) (j:Nat):(inl l).getD j 0=((l.getD j 0:Nat):Int):=by
 simp only [inl,List.getD_eq_getElem?_getD,List.getElem?_map]
 cases l[j]?<;>rfl
theorem z5t {w:World} {base n:Nat} {lv:Value} {l:List Nat} (h:w.ownsRow base 3 1 lv n (l.map fun z:Nat=>iv (z:Int))) (hn:l.length=n):z0w w lv (inl l):=by
 rcases h.2 with ⟨e1,e2⟩|⟨g,cap,cur,e1,_,hg,_,_,_,ht⟩
 ·have:l=[]:=List.length_eq_zero_iff.1 (by omega)
  subst this
  exact ⟨none,0,e1,fun hx=>absurd hx (by simp [inl])⟩
 ·refine ⟨some ⟨g,0,none⟩,cap,by rw [z3b,hn];exact e1,fun _=>⟨g,0,rfl,fun j hj=>?_⟩⟩
  rw [z3b] at hj
  have hc:=h.cells (g:=g) (by rw [e1];rfl) j (iv ((l.getD j 0:Nat):Int)) (by rw [List.getElem?_map,List.getElem?_eq_getElem hj,List.getD_eq_getElem?_getD,List.getElem?_eq_getElem hj];rfl)
  rw [w0z,show (⟨g,0+j,none⟩:Addr)=(⟨g,0,none⟩:Addr).add j from by simp [Addr.add]]
  exact hc
theorem y2n (ls:List Nat) (most:Nat) (loose:Bool) (v:Value) (w:World) (hr:z0w w v (inl ls)) (h1:1≤most) (h2:most≤20) (h3:1≤ls.length) (h4:ls.length≤65536) (hm:∀l∈ls,l≤most) (hs:z2s ls loose) :
  Calls Tryz.prog 37 #[v,.int .i64 (most:Int),.bool loose] w fun e w'=>∃g,w.heap.size≤g∧e=.returned (.tuple #[.slice (some ⟨g,0,none⟩) ls.length ls.length,.int .i64 0])∧z0f w' 130 g ls.length (wdz ls) (Canon.ln ls)∧Below w.heap.size w w':=by
 have ha:z2x (inl ls).length (most:Int):=⟨by omega,by omega,by rw [z3b];omega,by rw [z3b];omega⟩
 have hb:∀z∈inl ls,z2v (most:Int) z:=fun z hz=>by
  obtain ⟨x,hx,rfl⟩:=List.mem_map.1 hz
  have:=hm x hx
  exact ⟨by omega,by omega⟩
 refine (y9w v (inl ls) most loose w hr ha).mono ?_
 rintro e w' ⟨_,_,h,hb2⟩
 obtain ⟨g,q1,q2,q3⟩:=h ⟨ha,hb⟩ (by rw [x7e];exact hs)
 rw [z3b,x7e] at q3
 rw [z3b] at q2
 exact ⟨g,q1,q2,q3,hb2⟩
def y2y (i:Nat):List Value:=(List.range 32).map fun k=>iv (if k<i then 5 else 0)
theorem x6c (i:Nat) (h:i<32):(y2y i).set i (iv 5)=y2y (i+1):=by
 apply List.ext_getElem?
 intro k
 unfold y2y
 by_cases e:k=i
 ·subst e
  rw [List.getElem?_set_self (by simp;exact h),List.getElem?_map,List.getElem?_range h]
  simp
 ·rw [List.getElem?_set_ne (by omega),List.getElem?_map,List.getElem?_map]
  by_cases hk:k<32
  ·rw [List.getElem?_range hk]
   simp only [Option.map_some]
   by_cases c:k<i
   ·rw [if_pos c,if_pos (by omega)]
   ·rw [if_neg c,if_neg (by omega)]
  ·rw [List.getElem?_eq_none (by simp;omega)]
   rfl
theorem x7b:(madeCells (Value.int .i64 0).cells (32*1)).toList.toArray=(y2y 0).toArray:=by
 apply Array.ext
 ·simp [madeCells,y2y]
 ·intro i h1 h2
  simp [madeCells,y2y,Value.cells,iv,Nat.mod_one]
theorem z4m.stays {w w1:World} (hb:Below w.heap.size w w1) {v:Value} {ts:List T} (h:z4m w v ts):z4m w1 v ts:=by
 obtain ⟨a,cap,e,h2⟩:=h
 refine ⟨a,cap,e,fun h0=>?_⟩
 obtain ⟨b,off,e2,h3⟩:=h2 h0
 exact ⟨b,off,e2,fun j hj=>⟨z0a hb (h3 j hj).1,z0a hb (h3 j hj).2.1,z0a hb (h3 j hj).2.2⟩⟩
theorem x2x {w:World} {base:Nat} {lv:Value} (h:w.ownsRow base 3 1 lv 288 ((List.range 288).map fun i=>iv (fx i:Int))):w.ownsRow base 3 1 lv 288 (z1b.map fun z:Nat=>iv (z:Int)):=by
 rw [z1b,List.map_map];exact h
theorem z4l:z1b=(List.range 288).map fx:=rfl
theorem z5r:z1b.length=288:=by rw [z4l];simp
theorem z7g:z1c.length=32:=by unfold z1c;simp
theorem y1s {t:T} (h:t.n=0∧t.b<256∨3≤t.n∧t.n≤258∧1≤t.d∧t.d≤32768):t.has z1b z1c:=by
 have hL:∀s,s<288→s<z1b.length∧0<Canon.ln z1b s:=by
  intro s hs
  refine ⟨by rw [z5r];exact hs,?_⟩
  unfold Canon.ln
  rw [z4l,List.getD_eq_getElem?_getD,List.getElem?_map,List.getElem?_range hs]
  show 0<fx s
  unfold fx
  split
  ·decide
  ·split<;>decide
 have hD:∀s,s<32→s<z1c.length∧0<Canon.ln z1c s:=by
  intro s hs
  refine ⟨by rw [z7g];exact hs,?_⟩
  unfold Canon.ln z1c
  rw [List.getD_eq_getElem?_getD,List.getElem?_replicate,if_pos hs]
  decide
 unfold T.has
 rcases h with ⟨h0,hb⟩|⟨h1,h2,h3,h4⟩
 ·rw [if_pos h0]
  exact hL _ (by omega)
 ·rw [if_neg (by omega)]
  have a:=z6z t.n h1 h2
  have b:=z6y t.d h3 h4
  exact ⟨hL _ (by omega),hD _ (by omega)⟩
theorem St.wide {w w5 w6:World} {v:Value} {xs:List Value} (h:St w5 w6 v xs) (hb:Below w.heap.size w w5):St w w6 v xs:=by
 refine ⟨⟨h.own.1,?_⟩,hb.trans (h.bel.mono hb.size)⟩
 rcases h.own.2 with e|⟨g,cap,cur,e,hg,r⟩
 ·exact .inl e
 ·exact .inr ⟨g,cap,cur,e,Nat.le_trans hb.size hg,r⟩
theorem x6b {w:World} {G:Nat} (h:w.heap[G]?=some (.cells (y2y 32).toArray 3 (0,0))):w.ownsRow 0 3 1 (.slice (some ⟨G,0,none⟩) 32 32) 32 (z1c.map fun z:Nat=>iv (z:Int)) :=
 ⟨by decide,.inr ⟨G,32,(y2y 32).toArray,rfl,Nat.zero_le _,h,Nat.le_refl _,by decide,by decide,by rw [List.take_of_length_le (by decide)];rfl⟩⟩
theorem x8n (ts:List T) (last:Bool) (v:Value) (w:World) (hr:z4m w v ts) (hfit:∀t∈ts,t.fit) (hlen:ts.length≤1048576) :
  Calls Tryz.prog 16 #[v,.bool last] w fun e w'=>∃lv,e=.returned lv∧St w w' lv ((y0w last 1++(z2h z1b z1c ts++wb z1b 256)).map bi):=by
 obtain ⟨i0,hi,hz0,hz1,hz2⟩:=info_parts info3'
 have HR:=qz hr
 have HF:=qz hfit
 clear hr hfit
 go_enter Tryz.func16,Tryz.ntmps16
 go_wp2_with fail
 refine (y5b w).mono ?_
 rintro e w1 ⟨l1,rfl,h1,hb1⟩
 have H1:=qz (And.intro h1 hb1)
 clear h1 hb1
 go_wp2_with fail
 refine (y2n z1b 9 false l1 w1 (z5t (x2x (uh H1).1) (by decide)) (by omega) (by omega) (by decide) (by decide) (by decide +kernel) (.inl y1r)).mono ?_
 rintro e w2 ⟨g1,hg1,rfl,hw1,hb2⟩
 obtain ⟨n1,hn1⟩:∃n1,n1=z1b.length:=⟨_,rfl⟩
 rw [←hn1] at hw1 ⊢
 have HN1:=qz hn1
 have HW1:=qz hw1
 have HB2:=qz ((uh H1).2.trans (hb2.mono (uh H1).2.size))
 clear hg1 hw1 hb2 hn1
 go_wp2_with (at_make;go_must (refine wpList_make_full _ rfl _ _ 45 rfl w2.heap.size 3 i0 (.int .i64 0) 1 Tryz.underlying45 hi hz0 hz1 _ _ _ _ 32 rfl rfl (by omega) (by omega) (by rw [hz2];omega) (by unfold maxLen;omega) (Nat.le_refl _) ?_;intro w3 hown hgrow;have HO:=qz (z5k hown rfl).1;have HB:=qz ((Below.refl w2.heap.size w2).grown hgrow (Nat.le_refl _) (by intro k h;cases h));clear hown hgrow))
 go_loopg [8] 32 (fun gk c ws=>∃i:Nat,gk=32-i∧i≤32∧c=.int .i64 (i:Int)∧Hid (ws.heap[w2.heap.size]?=some (.cells (y2y i).toArray 3 (0,0)))∧Hid (Below w2.heap.size w2 ws))
 case atStart=>exact ⟨0,by omega,by omega,rfl,qz (by rw [uh HO,x7b]),HB⟩
 case round =>
  obtain ⟨i,rfl,hil,rfl,HROW,HBEL⟩:=hrel
  clear HO HB
  by_cases hlt:i<32
  ·have hii:(i:Int)<32:=by omega
   have hco:wr.cell? ⟨w2.heap.size,i,none⟩=some (.int .i64 0):=by simp [World.cell?,uh HROW,y2y,hlt,iv]
   have hfo:wr.frozen? ⟨w2.heap.size,i,none⟩=false:=by simp [World.frozen?,uh HROW]
   go_wp2_with fail
   go_roundg (32-(i+1))
   case measure=>omega
   case rel =>
    refine ⟨i+1,rfl,by omega,by go_num,qz ?_,qz ((uh HBEL).setCell (Nat.le_refl _) _)⟩
    rw [heap_setCell_same wr w2.heap.size i _ 3 _ (uh HROW),←x6c i hlt]
    simp [iv]
  ·obtain rfl:i=32:=by omega
   rename World=>w4
   go_wp2_with fail
   refine (y2n z1c 5 false _ w4 (z5t (x6b (uh HROW)) (by decide)) (by omega) (by omega) (by decide) (by decide) (by decide +kernel) (.inl y1p)).mono ?_
   rintro e w5 ⟨g2,hg2,rfl,hw2,hb5⟩
   obtain ⟨n2,hn2⟩:∃n2,n2=z1c.length:=⟨_,rfl⟩
   rw [←hn2] at hw2 ⊢
   have HN2:=qz hn2
   have HW2:=qz hw2
   have HB5:=qz hb5
   clear hg2 hw2 hb5 hn2
   go_wp2_with fail
   refine (y5y last 1 w5 (by omega)).mono ?_
   rintro e w6 ⟨lv6,rfl,h6⟩
   have H6:=qz h6
   have hb4:Below w.heap.size w w4:=(uh HB2).trans ((uh HBEL).mono (uh HB2).size)
   have hb5':Below w.heap.size w w5:=hb4.trans ((uh HB5).mono hb4.size)
   have hb6:Below w.heap.size w w6:=hb5'.trans (h6.bel.mono hb5'.size)
   have q1:z0f w6 130 g1 n1 (wdz z1b) (Canon.ln z1b):=by
    have a:=z0b (uh HW1)
    have c1:=(uh HW1).stays (uh HBEL) a
    have c2:=c1.stays (uh HB5) (z0b c1)
    exact c2.stays h6.bel (z0b c2)
   have q2:z0f w6 130 g2 n2 (wdz z1c) (Canon.ln z1c):=(uh HW2).stays h6.bel (z0b (uh HW2))
   have HB5':=qz hb5'
   have HT:Hid (Calls Tryz.prog 39 #[v,.slice (some ⟨g1,0,none⟩) n1 n1,.slice (some ⟨g2,0,none⟩) n2 n2] w6 fun e w'=>∃lv,e=.returned lv∧St w6 w' lv ((z2h z1b z1c ts++wb z1b 256).map bi)):=qz (by
    rw [uh HN1,uh HN2]
    rw [uh HN1] at q1
    rw [uh HN2] at q2
    exact x1s ts z1b z1c v g1 g2 w6 ((uh HR).stays hb6) z8e y1q q1 q2 (uh HF) (fun t ht=>y1s (uh HF t ht)) (by decide +kernel) hlen)
   have HLT:Hid ((z2h z1b z1c ts).length≤64*ts.length):=qz (by have:=z6g z8e y1q (uh HF) ts.length (Nat.le_refl _);rw [List.take_length] at this;exact this)
   clear h6 hb4 hb5' hb6 q1 q2
   go_wp2_with fail
   refine (uh HT).mono ?_
   rintro e w7 ⟨lv7,rfl,h7⟩
   have H7:=qz h7
   clear h7
   go_wp2_with (at_builtin;refine z1y rfl _ _ rfl lv6 lv7 _ _ _ (by rfl) (by rfl) (((uh H6).wide (uh HB5')).later (uh H7).bel) (uh H7).own (z2p _) (by have z1:=uh HLT;have z2:=z2d z8e 256;simp only [List.length_append,List.length_map,z1i,z0s];omega) ?_;intro v8 w8 h8 _;have H8:=qz h8;clear h8)
   go_ret
   refine ⟨v8,rfl,?_⟩
   have h8:=uh H8
   rw [←List.map_append] at h8
   exact h8
end R8
namespace L5
open Go.RowKit
theorem qz {p:Prop} (h:p):Hid p:=h
theorem uh {p:Prop} (h:Hid p):p:=h
theorem z1e {w:World} {p:Addr} {u:Value} (h:w.cell? p=some u):p.block<w.heap.size:=by
 rcases Nat.lt_or_ge p.block w.heap.size with h'|h'
 ·exact h'
 ·simp [World.cell?,Array.getElem?_eq_none h'] at h
theorem z0a {w w1:World} (hb:Below w.heap.size w w1) {p:Addr} {u:Value} (h:w.cell? p=some u):w1.cell? p=some u:=by
 rw [hb.cell (z1e h)];exact h
theorem z0b {w:World} {k:Nat} {o:Obj} (h:w.heap[k]?=some o):k<w.heap.size:=by
 rcases Nat.lt_or_ge k w.heap.size with h'|h'
 ·exact h'
 ·rw [Array.getElem?_eq_none h'] at h;cases h
def z0w (w:World) (v:Value) (zs:List Int):Prop :=
 ∃a cap,v=.slice a zs.length cap∧(0<zs.length→∃b off,a=some ⟨b,off,none⟩∧∀j,j<zs.length→w.cell? ⟨b,off+j,none⟩=some (.int .i64 (zs.getD j 0)))
def upd (T:Nat→Nat) (j y:Nat):Nat→Nat:=fun i=>if i=j then y else T i
def z0d (k:IntKind) (n:Nat) (C:Nat→Nat):Array Value:=((List.range n).map fun i=>Value.int k (C i:Int)).toArray
theorem z6q {k:IntKind} {n:Nat} {C C':Nat→Nat} (h:∀i,i<n→C i=C' i):z0d k n C=z0d k n C':=by
 unfold z0d
 congr 1
 refine List.map_congr_left fun i hi=>?_
 simp at hi
 rw [h i hi]
def z0c (w:World) (k:IntKind) (t:TypeId) (g n:Nat) (C:Nat→Nat):Prop:=w.heap[g]?=some (.cells (z0d k n C) t (0,0))
section
variable {w w':World} {k:IntKind} {t:TypeId} {g n B:Nat} {C C':Nat→Nat}
theorem z0c.cell (h:z0c w k t g n C) (i:Nat) (hi:i<n):w.cell? ⟨g,i,none⟩=some (.int k (C i:Int)):=by
 simp only [World.cell?,show w.heap[g]?=_ from h]
 simp only [z0d,List.getElem?_toArray,List.getElem?_map]
 rw [List.getElem?_range hi]
 simp
theorem z0c.free (h:z0c w k t g n C) (i:Nat):w.frozen? ⟨g,i,none⟩=false:=by
 simp [World.frozen?,show w.heap[g]?=_ from h]
theorem z0c.lt (h:z0c w k t g n C):g<w.heap.size:=z0b h
theorem z0c.set (h:z0c w k t g n C) (i x:Nat):z0c (w.setCell ⟨g,i,none⟩ (.int k (x:Int))) k t g n (upd C i x):=by
 unfold z0c
 rw [heap_setCell_same w g i _ t (.int k (x:Int)) h]
 congr 2
 apply Array.ext (by simp [z0d])
 intro j j1 j2
 have hj:j<n:=by simpa [z0d] using j2
 rw [Array.getElem_setIfInBounds (by simpa [z0d] using hj)]
 simp only [z0d,upd,List.getElem_toArray,List.getElem_map,List.getElem_range]
 by_cases e:i=j
 ·subst e;simp
 ·rw [if_neg e,if_neg (by omega)]
theorem z0c.stays (h:z0c w k t g n C) (hb:Below B w w') (hg:g<B):z0c w' k t g n C:=by
 unfold z0c
 rw [hb.block g hg]
 exact h
theorem z0c.congr (h:z0c w k t g n C) (hc:∀i,i<n→C i=C' i):z0c w k t g n C':=by
 unfold z0c
 rw [←z6q hc]
 exact h
theorem z0c.other (h:z0c w k t g n C) (a:Addr) (v:Value) (hg:g≠a.block):z0c (w.setCell a v) k t g n C:=by
 unfold z0c
 rw [heap_setCell_other _ _ _ _ hg]
 exact h
theorem z0c.alloc (h:z0c w k t g n C) (o:Obj):z0c (w.alloc o) k t g n C:=by
 unfold z0c
 rw [Below.heap_alloc _ _ _ h.lt]
 exact h
end
theorem info3':(Tryz.prog.info? 3).map (fun i=>(i.zero,i.size,i.bytes))=some (some (.int .i64 0),1,8):=by kernel_rfl
theorem z2c (w:World) (n:Nat) (hn:n≤65536):(Instr.makeSlice 45 (.int .i64 (n:Int)) (.int .i64 (n:Int))).run Tryz.prog w=.ok (.slice (some ⟨w.heap.size,0,none⟩) n n) (w.alloc (.cells (z0d .i64 n (fun _=>0)) 3)):=by
 obtain ⟨i0,hi,hz0,hz1,hz2⟩:=info_parts info3'
 have:=run_make (P:=Tryz.prog) w 45 3 i0 (.int .i64 0) Tryz.underlying45 hi hz0 .i64 .i64 (n:Int) (n:Int) (by omega) (by omega) (by rw [hz2];omega) (by omega)
 rw [hz1] at this
 rw [this]
 congr 3
 apply Array.ext (by simp [madeCells,z0d])
 intro k k1 k2
 simp [z0d,madeCells,Value.cells,Nat.mod_one]
def iv (z:Int):Value:=.int .i64 z
def z3h (w:World) (a:Option Addr) (cap:Nat) (zs:List Int):Prop:=(a=none∧cap=0∧zs=[])∨∃ad,a=some ad∧∀ (j:Nat) u,(zs.map iv)[j]?=some u→w.cell? (ad.add j)=some u
structure Only (rp:Nat) (w w':World):Prop where
 os:w'.os=w.os
 tape:w'.tape=w.tape
 output:w'.output=w.output
 size:w.heap.size≤w'.heap.size
 keep:∀x,x<w.heap.size→x≠rp→w'.heap[x]?=w.heap[x]?
theorem Only.below {rp B:Nat} {w w':World} (h:Only rp w w') (hB:B≤rp) (hs:B≤w.heap.size):Below B w w' :=
 ⟨h.os,h.tape,h.output,h.size,fun k hk=>h.keep k (by omega) (by omega)⟩
theorem Only.refl (g:Nat) (w:World):Only g w w:=⟨rfl,rfl,rfl,Nat.le_refl _,fun _ _ _=>rfl⟩
theorem Only.set {g:Nat} {w w':World} (h:Only g w w') (j:Nat) (v:Value):Only g w (w'.setCell ⟨g,j,none⟩ v) :=
 ⟨h.os,h.tape,h.output,by simpa using h.size,fun x hx hne=>by rw [heap_setCell_other _ _ _ _ (by exact hne)];exact h.keep x hx hne⟩
theorem z0y {w w':World} {base e size n:Nat} {v:Value} {xs:List Value} (h:w.ownsRow base e size v n xs) (h2:∀g,v.ownBlock=some g→w'.heap[g]?=w.heap[g]?):w'.ownsRow base e size v n xs:=by
 obtain ⟨hl,hr⟩:=h
 refine ⟨hl,?_⟩
 rcases hr with e|⟨g,cap,cur,e,hb,hh,r⟩
 ·exact .inl e
 ·exact .inr ⟨g,cap,cur,e,hb,by rw [h2 g (by rw [e];rfl)];exact hh,r⟩
section
variable {ws:World} {v10:Value} {ss:List Int}
theorem y2g {base n:Nat} {xs:List Value} (h:ws.ownsRow base 3 1 v10 n xs):∃a c,v10=.slice a n c:=by
 rcases h.2 with ⟨e,rfl⟩|⟨g,cap,_,e,_⟩
 ·exact ⟨none,0,e⟩
 ·exact ⟨_,cap,e⟩
end
end L5
namespace L5
open Go.RowKit
variable {F:Fence} {P:Program}
theorem z4d {W:World} {l:Nat} {o o':Obj} (h:W.heap[l]?=some o):(W.putObj l o').heap[l]?=some o':=World.putObj_heap_same (Array.getElem?_eq_some_iff.1 h).1
theorem w2b {m l:Nat} {r:Loop} {args:Array Value} {W:World} {I':World→Prop} (hfn:F.fn r.fn) (hl:W.heap[l]?=some (.loop r)) (hr:r.state=.ready) (hp:r.pending=none) (hs:args.size=r.params.size)
  (h:r.assign.wpIn (F.inRound l) m P (Exit.then (fun a' W'=>W'.heap[l]?=some (.loop r)∧r.body.wpIn (F.inRound l) m P (fun e _ W''=>e=.normal∧W''.heap[l]?=some (.loop { r with state:=.busy })∧I' (W''.putObj l (.loop r))) a' (W'.putObj l (.loop { r with state:=.busy }))) (fun _ _ _=>False))
   { tmps:=(r.params.zip args).foldl (fun t (p,v)=>t.setIfInBounds p v) r.tmps,defers:=[] } W) :
  YieldAt F m P l args W fun e W'=>e=.returned (.bool true)∧I' W'∧W'.heap[l]?=some (.loop r):=by
 refine ⟨r.fn,_,r.assign,r.body,run_yield hl hs,roundIn_of_wpIn hfn (wpIn_mono h ?_)⟩
 rintro e a' W' hq
 cases e with
 | normal =>
  obtain ⟨h1,h2⟩:=hq
  refine ⟨_,run_beginRound h1 hr,wpIn_mono h2 ?_⟩
  rintro e a'' W'' ⟨rfl,h3,h4⟩
  have h5:=run_endRound (P:=P) none h3
  have e2:({ { r with state:=.busy } with state:=if (none:Option Go.Code).isNone then .ready else .done,pending:=none }:Loop)=r:=by
   cases r
   simp at hr hp
   subst hr hp
   rfl
  rw [e2] at h5
  exact ⟨_,_,h5,rfl,h4,z4d h3⟩
 | _=>exact hq.elim
theorem x8j {n:Nat} {g:Operand} {ps:Array Tmp} {assign body:Go.Code} {Q:Exit→Act→World→Prop} {a:Act} {w:World} (hro:F.round=none) (h1:1≤n) {gf:Nat} {lb:Array Value} (hg:a.eval g=.func (.func gf) #[] lb) (hFg:F.fn gf)
  (eg:∀args w,(callFunc gf args).run P w=.ok (.enter gf args) w) (encs:Nat→Array Value) (N:Nat) (hps:∀k,(encs k).size=ps.size) (I:Nat→World→Prop) (hI:OwnFrom w.heap.size I) (h0:I 0 w)
  (hseq:∀ (l:Nat) (J:Nat→World→Prop) (W:World),(∀k W,J k W→I k W)→J 0 W→(∀k W1,k<N→J k W1→YieldAt F (n-1-1) P l (encs k) W1 fun e W'=>e=.returned (.bool true)∧J (k+1) W') →
   CallsIn F (n-1) P gf (#[.func (.yield l) #[] #[]]++lb) W fun e W'=>(∃v,e=.returned v)∧J N W')
  (Ax:Nat→Act→World→Prop) (hAx:∀k a',OwnFrom w.heap.size (fun (_:Unit) W=>Ax k a' W))
  (hassign:∀ (l k:Nat) (W:World) (K:Act→World→Prop),k<N→I k W→(∀a' W',KeepsOthers W W'→I k W'→Ax k a' W'→K a' W') →
   assign.wpIn (F.inRound l) (n-1-1) P (Exit.then K (fun _ _ _=>False)) { tmps:=(ps.zip (encs k)).foldl (fun t (p,v)=>t.setIfInBounds p v) a.tmps,defers:=[] } W)
  (hbody:∀ (l k:Nat) (a':Act) (W:World),k<N→I k W→Ax k a' W→body.wpIn (F.inRound l) (n-1-1) P (fun e _ W''=>e=.normal∧KeepsOthers W W''∧I (k+1) W'') a' W)
  (hdone:∀ (D:Nat) (W:World),w.heap.size≤D→I N W→W.heap[D]?=some (.deferred (some []))→Q .normal { a with defers:={ target:=.collected D,args:=#[] } :: a.defers } W) :
  (Go.Code.rangeFunc g ps assign body).wpIn F n P Q a w:=by
 refine wpIn_rangeFunc fun fn hfn=>?_
 rw [hro]
 obtain ⟨r,hr⟩:∃r:Loop,r={ state:=.ready,pending:=none,fn:=fn,tmps:=a.tmps,params:=ps,assign:=assign,body:=body,defers:=w.heap.size }:=⟨_,rfl⟩
 have hL:((w.alloc (.deferred (some []))).alloc (.loop r)).heap[w.heap.size+1]?=some (.loop r):=by
  have:=World.alloc_heap_new (w.alloc (.deferred (some []))) (.loop r)
  rwa [World.size_alloc] at this
 have hD:((w.alloc (.deferred (some []))).alloc (.loop r)).heap[w.heap.size]?=some (.deferred (some [])):=(Below.heap_alloc _ _ _ (by simp)).trans (World.alloc_heap_new w _)
 have hI1:I 0 ((w.alloc (.deferred (some []))).alloc (.loop r)):=hI.alloc _ (hI.alloc _ h0)
 obtain ⟨W1,hW1⟩:∃W1,W1=(w.alloc (.deferred (some []))).alloc (.loop r):=⟨_,rfl⟩
 rw [←hW1] at hL hD hI1
 refine ⟨w.heap.size+1,[{ target:=.collected w.heap.size,args:=#[] }],W1,{ target:=.fn (.func gf) lb,args:=#[.func (.yield (w.heap.size+1)) #[] #[]] },W1,gf,#[.func (.yield (w.heap.size+1)) #[] #[]]++lb,W1,
  (by rw [hW1,hr];exact run_enterLoop_outer _ _ _ _ _),(by simp only [resolve,hg];simp [go_sem]),(fun f' hf'=>by simp [Target.leads] at hf';subst hf';exact hFg),(by simp [invoke,go_sem,eg]),fun _=>h1,?_⟩
 refine (hseq (w.heap.size+1) (fun k W=>I k W∧W.heap[w.heap.size]?=some (.deferred (some []))∧W.heap[w.heap.size+1]?=some (.loop r)) _ (fun k W h=>h.1) ⟨hI1,hD,hL⟩ ?_).mono ?_
 ·rintro k W hk ⟨hi,hd,hl⟩
  have hrd:=w2b (F:=F) (P:=P) (m:=n-1-1) (l:=w.heap.size+1) (r:=r) (args:=encs k) (W:=W) (I':=fun W'=>I (k+1) W'∧W'.heap[w.heap.size]?=some (.deferred (some []))) (by rw [hr];exact hfn) hl (by rw [hr]) (by rw [hr]) (by rw [hr];exact hps k) (by
   have e1:r.assign=assign:=by rw [hr]
   have e2:r.body=body:=by rw [hr]
   have e3:r.params=ps:=by rw [hr]
   have e4:r.tmps=a.tmps:=by rw [hr]
   have hassign':=hassign
   have hbody':=hbody
   rw [←e1,←e3,←e4] at hassign'
   rw [←e2] at hbody'
   refine hassign' _ k W _ hk hi fun a' W' kp hi' hax=>?_
   have hl':=kp.same (w.heap.size+1) (.loop r) hl rfl
   have hd':=kp.same w.heap.size (.deferred (some [])) hd rfl
   refine ⟨hl',wpIn_mono (hbody' _ k a' _ hk (hI.putObj _ hi' (by omega) hl' rfl) ((hAx k a').putObj (s:=()) _ hax (by omega) hl' rfl)) ?_⟩
   rintro e a'' W'' ⟨rfl,kp2,hi2⟩
   have hl2:=kp2.same (w.heap.size+1) (.loop { r with state:=.busy }) (z4d hl') rfl
   have hd2:=kp2.same w.heap.size (.deferred (some [])) ((World.putObj_heap_other (by omega)).trans hd') rfl
   exact ⟨rfl,hl2,hI.putObj _ hi2 (by omega) hl2 rfl,(World.putObj_heap_other (by omega)).trans hd2⟩)
  obtain ⟨f',t',as',b',hy,hR⟩:=hrd
  exact ⟨f',t',as',b',hy,hR.mono fun e W' ⟨x1,⟨x2,x3⟩,x4⟩=>⟨x1,x2,x3,x4⟩⟩
 ·rintro e W2 ⟨⟨v,rfl⟩,hi,hd,hl⟩
  have h2:=run_endLoop (P:=P) hl (by rw [hr];simp)
  have e2:r.pending=none:=by rw [hr]
  rw [e2] at h2
  exact ⟨none,_,h2,hdone _ _ (Nat.le_refl _) (hI.putObj _ hi (by omega) hl rfl) ((World.putObj_heap_other (by omega)).trans hd)⟩
end L5
namespace Merge
abbrev Coin:=Nat × List Nat
def pack:List Coin→List Coin
 | a :: b :: r=>(a.1+b.1,a.2++b.2) :: pack r
 | _=>[]
def mrg:List Coin→List Coin→List Coin
 | [],ps=>ps
 | bs,[]=>bs
 | b :: bs,p :: ps=>if p.1<b.1 then p :: mrg (b :: bs) ps else b :: mrg bs (p :: ps)
termination_by a b=>a.length+b.length
def rounds (base:List Coin):Nat→List Coin
 | 0=>base
 | k+1=>mrg base (pack (rounds base k))
def worth (l:List Coin):Nat:=(l.map Prod.fst).sum
def pre (l:List Coin) (m:Nat):Nat:=worth (l.take m)
def Sorted (l:List Coin):Prop:=l.Pairwise fun a b=>a.1≤b.1
theorem x9t:worth []=0:=rfl
theorem z4u (a:Coin) (l:List Coin):worth (a :: l)=a.1+worth l:=by simp [worth]
theorem y8n (a b:List Coin):worth (a++b)=worth a+worth b:=by simp [worth]
theorem z2j (l:List Coin):pre l 0=0:=by simp [pre,worth]
theorem z2f (a:Coin) (l:List Coin) (m:Nat):pre (a :: l) (m+1)=a.1+pre l m:=by simp [pre,worth]
theorem pre_nil (m:Nat):pre [] m=0:=by simp [pre,worth]
theorem x1m (l:List Coin):∀{a b:Nat},a≤b→pre l a≤pre l b:=by
 induction l with
 | nil=>intro a b _;simp [pre_nil]
 | cons x r ih =>
  intro a b h
  rcases a with _|a
  ·rw [z2j];omega
  ·rcases b with _|b
   ·omega
   ·rw [z2f,z2f]
    have:=ih (show a≤b by omega)
    omega
theorem y5w {x:Coin} {l:List Coin} (hs:Sorted (x :: l)):∀{m:Nat},m<l.length+1→pre (x :: l) m+x.1≤pre (x :: l) (m+1):=by
 induction l generalizing x with
 | nil=>intro m h;obtain rfl:m=0:=by simp at h;omega
        rw [z2j,z2f,z2j];omega
 | cons y r ih =>
  intro m h
  rcases m with _|m
  ·rw [z2j,z2f,z2j];omega
  ·rw [z2f,z2f]
   have hs':Sorted (y :: r):=(List.pairwise_cons.1 hs).2
   have hxy:x.1≤y.1:=(List.pairwise_cons.1 hs).1 y (by simp)
   have:=ih hs' (m:=m) (by simp at h ⊢;omega)
   omega
theorem z2q (ps:List Coin):mrg [] ps=ps:=by unfold mrg;rfl
theorem z1k (bs:List Coin):mrg bs []=bs:=by
 cases bs<;>simp [mrg]
theorem z3d:∀ (a b:List Coin),(mrg a b).length=a.length+b.length
 | [],ps=>by rw [z2q];simp
 | b :: bs,[]=>by rw [z1k];simp
 | b :: bs,p :: ps=>by
  rw [mrg]
  split
  ·rw [List.length_cons,z3d (b :: bs) ps];simp only [List.length_cons];omega
  ·rw [List.length_cons,z3d bs (p :: ps)];simp only [List.length_cons];omega
termination_by a b=>a.length+b.length
theorem y1y:∀ (A B:List Coin),Sorted A→Sorted B→∀a b,a≤A.length→b≤B.length→pre (mrg A B) (a+b)≤pre A a+pre B b
 | [],B,_,_,a,b,ha,_=>by
  obtain rfl:a=0:=by simpa using ha
  rw [z2q,pre_nil,Nat.zero_add,Nat.zero_add];exact Nat.le_refl _
 | x :: A,[],_,_,a,b,_,hb=>by
  obtain rfl:b=0:=by simpa using hb
  rw [z1k,pre_nil,Nat.add_zero,Nat.add_zero];exact Nat.le_refl _
 | x :: A,y :: B,hA,hB,a,b,ha,hb=>by
  have hA':Sorted A:=(List.pairwise_cons.1 hA).2
  have hB':Sorted B:=(List.pairwise_cons.1 hB).2
  rw [mrg]
  split
  ·rename_i hlt
   rcases b with _|b
   ·rcases a with _|a
    ·rw [Nat.add_zero,z2j];omega
    ·have ih:=y1y (x :: A) B hA hB' a 0 (by omega) (by omega)
     have st:=y5w hA (m:=a) (by simp at ha ⊢;omega)
     rw [Nat.add_zero,z2f,z2j]
     rw [Nat.add_zero,z2j] at ih
     omega
   ·have ih:=y1y (x :: A) B hA hB' a b ha (by simp at hb;omega)
    rw [←Nat.add_assoc,z2f,z2f]
    omega
  ·rename_i hge
   rcases a with _|a
   ·rcases b with _|b
    ·rw [Nat.add_zero,z2j];omega
    ·have ih:=y1y A (y :: B) hA' hB 0 b (by omega) (by omega)
     have st:=y5w hB (m:=b) (by simp at hb ⊢;omega)
     rw [Nat.zero_add,z2f,z2j]
     rw [Nat.zero_add,z2j] at ih
     omega
   ·have ih:=y1y A (y :: B) hA' hB a b (by simp at ha;omega) hb
    rw [show a+1+b=(a+b)+1 by omega,z2f,z2f]
    omega
termination_by A B=>A.length+B.length
theorem z4c:∀l:List Coin,(pack l).length=l.length/2
 | []=>by simp [pack]
 | [_]=>by simp [pack]
 | a :: b :: r=>by rw [pack,List.length_cons,z4c r];simp only [List.length_cons];omega
theorem x1l:∀ (l:List Coin) (p:Nat),2*p≤l.length→pre (pack l) p=pre l (2*p)
 | _,0,_=>by rw [z2j,Nat.mul_zero,z2j]
 | [],p+1,h=>by simp at h
 | [_],p+1,h=>by simp at h;omega
 | a :: b :: r,p+1,h=>by
  rw [pack,z2f,show 2*(p+1)=(2*p+1)+1 by omega,z2f,z2f,x1l r p (by simp at h;omega)]
  omega
theorem z9w {x:Coin}:∀ (A B:List Coin),x∈mrg A B→x∈A∨x∈B
 | [],B,h=>by rw [z2q] at h;exact .inr h
 | a :: A,[],h=>by rw [z1k] at h;exact .inl h
 | a :: A,b :: B,h=>by
  rw [mrg] at h
  split at h
  ·rcases List.mem_cons.1 h with rfl|h
   ·exact .inr (by simp)
   ·rcases z9w (a :: A) B h with h|h
    ·exact .inl h
    ·exact .inr (List.mem_cons_of_mem _ h)
  ·rcases List.mem_cons.1 h with rfl|h
   ·exact .inl (by simp)
   ·rcases z9w A (b :: B) h with h|h
    ·exact .inl (List.mem_cons_of_mem _ h)
    ·exact .inr h
termination_by A B=>A.length+B.length
theorem z9x:∀ (A B:List Coin),Sorted A→Sorted B→Sorted (mrg A B)
 | [],B,_,h=>by rw [z2q];exact h
 | a :: A,[],h,_=>by rw [z1k];exact h
 | a :: A,b :: B,hA,hB=>by
  have hA':=List.pairwise_cons.1 hA
  have hB':=List.pairwise_cons.1 hB
  rw [mrg]
  split
  ·rename_i hlt
   refine List.pairwise_cons.2 ⟨fun x hx=>?_,z9x (a :: A) B hA hB'.2⟩
   rcases z9w _ _ hx with h|h
   ·rcases List.mem_cons.1 h with rfl|h
    ·omega
    ·have:=hA'.1 x h;omega
   ·exact hB'.1 x h
  ·rename_i hge
   refine List.pairwise_cons.2 ⟨fun x hx=>?_,z9x A (b :: B) hA'.2 hB⟩
   rcases z9w _ _ hx with h|h
   ·exact hA'.1 x h
   ·rcases List.mem_cons.1 h with rfl|h
    ·omega
    ·have:=hB'.1 x h;omega
termination_by A B=>A.length+B.length
theorem x7x {m:Nat}:∀ (l:List Coin),(∀x∈l,m≤x.1)→∀x∈pack l,m+m≤x.1
 | [],_,x,h=>by simp [pack] at h
 | [_],_,x,h=>by simp [pack] at h
 | a :: b :: r,hl,x,h=>by
  rw [pack] at h
  rcases List.mem_cons.1 h with rfl|h
  ·have h1:=hl a (by simp)
   have h2:=hl b (by simp)
   show m+m≤a.1+b.1
   omega
  ·exact x7x r (fun y hy=>hl y (by simp [hy])) x h
theorem z8i:∀ (l:List Coin),Sorted l→Sorted (pack l)
 | [],_=>by simp [pack,Sorted]
 | [_],_=>by simp [pack,Sorted]
 | a :: b :: r,h=>by
  rw [pack]
  have h1:=List.pairwise_cons.1 h
  have h2:=List.pairwise_cons.1 h1.2
  refine List.pairwise_cons.2 ⟨fun x hx=>?_,z8i r h2.2⟩
  have h3:=x7x (m:=b.1) r (fun y hy=>h2.1 y hy) x hx
  have h4:=h1.1 b (by simp)
  show a.1+b.1≤x.1
  omega
theorem z8x {base:List Coin} (h:Sorted base):∀k,Sorted (rounds base k)
 | 0=>h
 | k+1=>z9x _ _ h (z8i _ (z8x h k))
/-! ### No choice of z1v is worth less -/
def wide (c:Nat→Nat):Nat→Nat
 | 0=>c 0
 | k+1=>wide c k+c (k+1)*2^(k+1)
def x8e (base:List Coin) (c:Nat→Nat):Nat→Nat
 | 0=>pre base (c 0)
 | k+1=>x8e base c k+pre base (c (k+1))
theorem x0l (base:List Coin) (c:Nat→Nat) (hc:∀j,c j≤base.length):∀k,wide c k<((rounds base k).length+1)*2^k
 | 0=>by have:=hc 0;simp [wide,rounds];omega
 | k+1=>by
  have ih:=x0l base c hc k
  have h1:=hc (k+1)
  rw [wide,rounds,z3d,z4c,Nat.pow_succ]
  generalize (rounds base k).length=n at ih ⊢
  have h2:(n+1)*2^k≤(n/2+1)*(2^k*2):=by
   rw [show (n/2+1)*(2^k*2)=(2*(n/2)+2)*2^k by rw [Nat.mul_comm (2^k) 2,←Nat.mul_assoc];congr 1;omega]
   exact Nat.mul_le_mul_right _ (by omega)
  have h3:c (k+1)*(2^k*2)≤base.length*(2^k*2):=Nat.mul_le_mul_right _ h1
  rw [show (base.length+n/2+1)*(2^k*2)=base.length*(2^k*2)+(n/2+1)*(2^k*2) by rw [←Nat.add_mul,Nat.add_assoc]]
  omega
theorem best {base:List Coin} (hs:Sorted base) (c:Nat→Nat) (hc:∀j,c j≤base.length):∀k m,m*2^k≤wide c k→pre (rounds base k) m≤x8e base c k
 | 0,m,h=>by
  simp only [wide,Nat.pow_zero,Nat.mul_one] at h
  exact x1m _ h
 | k+1,m,h=>by
  have hw:=x0l base c hc k
  have hp:0<2^k:=Nat.two_pow_pos _
  obtain ⟨p,hpd⟩:∃p,p=wide c k/(2^k*2):=⟨_,rfl⟩
  have hd:=Nat.div_add_mod (wide c k) (2^k*2)
  have hr:=Nat.mod_lt (wide c k) (show 0<2^k*2 by omega)
  rw [←hpd] at hd
  have h1:(2*p)*2^k≤wide c k:=by
   rw [show 2*p*2^k=2^k*2*p by rw [Nat.mul_comm 2 p,Nat.mul_assoc,Nat.mul_comm p,Nat.mul_comm 2]]
   omega
  have h2:2*p≤(rounds base k).length:=by
   have:2*p*2^k<((rounds base k).length+1)*2^k:=Nat.lt_of_le_of_lt h1 hw
   have:=Nat.lt_of_mul_lt_mul_right this
   omega
  have h3:m≤c (k+1)+p:=by
   rw [wide,Nat.pow_succ] at h
   have h4:m*(2^k*2)<(c (k+1)+p+1)*(2^k*2):=by
    rw [show (c (k+1)+p+1)*(2^k*2)=c (k+1)*(2^k*2)+2^k*2*p+2^k*2 by rw [Nat.add_mul,Nat.add_mul,Nat.one_mul,Nat.mul_comm p]]
    omega
   have:=Nat.lt_of_mul_lt_mul_right h4
   omega
  have ih:=best hs c hc k (2*p) h1
  rw [←x1l _ p h2] at ih
  have hm:=y1y base (pack (rounds base k)) hs (z8i _ (z8x hs k)) (c (k+1)) p (hc _) (by rw [z4c];omega)
  have hmo:=x1m (mrg base (pack (rounds base k))) h3
  rw [rounds,x8e]
  omega
/-! ### What is chosen -/
def syms (l:List Coin):List Nat:=l.flatMap Prod.snd
theorem z5c (a b:List Coin):syms (a++b)=syms a++syms b:=by simp [syms]
theorem z3x (a:Coin) (l:List Coin):syms (a :: l)=a.2++syms l:=by simp [syms]
theorem y2h:∀ (l:List Coin) (p:Nat),2*p≤l.length→syms ((pack l).take p)=syms (l.take (2*p))
 | _,0,_=>by simp [syms]
 | [],p+1,h=>by simp at h
 | [_],p+1,h=>by simp at h;omega
 | a :: b :: r,p+1,h=>by
  rw [pack,List.take_succ_cons,show 2*(p+1)=(2*p+1)+1 by omega,List.take_succ_cons,List.take_succ_cons,z3x,z3x,z3x,y2h r p (by simp at h;omega),List.append_assoc]
theorem y5o:∀ (A B:List Coin) (m:Nat),m≤A.length+B.length→∃a b,a+b=m∧a≤A.length∧b≤B.length∧((mrg A B).take m).Perm (A.take a++B.take b)
 | A,B,0,_=>⟨0,0,rfl,by omega,by omega,by simp⟩
 | [],B,m+1,h=>⟨0,m+1,by omega,by omega,by simpa using h,by rw [z2q];simp⟩
 | x :: A,[],m+1,h=>⟨m+1,0,by omega,by simpa using h,by omega,by rw [z1k];simp⟩
 | x :: A,y :: B,m+1,h=>by
  rw [mrg]
  split
  ·obtain ⟨a,b,h1,h2,h3,h4⟩:=y5o (x :: A) B m (by simp at h ⊢;omega)
   refine ⟨a,b+1,by omega,h2,by simpa using h3,?_⟩
   rw [List.take_succ_cons,List.take_succ_cons]
   exact (h4.cons y).trans List.perm_middle.symm
  ·obtain ⟨a,b,h1,h2,h3,h4⟩:=y5o A (y :: B) m (by simp at h ⊢;omega)
   refine ⟨a+1,b,by omega,by simpa using h2,h3,?_⟩
   rw [List.take_succ_cons,List.take_succ_cons,List.cons_append]
   exact h4.cons x
termination_by A B=>A.length+B.length
def chosen (base:List Coin) (c:Nat→Nat):Nat→List Nat
 | 0=>syms (base.take (c 0))
 | k+1=>chosen base c k++syms (base.take (c (k+1)))
theorem y0i {base:List Coin} {c d:Nat→Nat}:∀k,(∀j,j≤k→c j=d j)→chosen base c k=chosen base d k
 | 0,h=>by rw [chosen,chosen,h 0 (Nat.le_refl _)]
 | k+1,h=>by rw [chosen,chosen,y0i k (fun j hj=>h j (by omega)),h (k+1) (Nat.le_refl _)]
theorem y4e {c d:Nat→Nat}:∀k,(∀j,j≤k→c j=d j)→wide c k=wide d k
 | 0,h=>by rw [wide,wide,h 0 (Nat.le_refl _)]
 | k+1,h=>by rw [wide,wide,y4e k (fun j hj=>h j (by omega)),h (k+1) (Nat.le_refl _)]
theorem pieces (base:List Coin):∀k m,m≤(rounds base k).length→∃c:Nat→Nat,(∀j,c j≤base.length)∧wide c k=m*2^k∧(syms ((rounds base k).take m)).Perm (chosen base c k)
 | 0,m,h=>⟨fun j=>if j=0 then m else 0,fun j=>by
   by_cases e:j=0
   ·simp only [if_pos e];exact h
   ·simp only [if_neg e];omega,by simp [wide],by simp [chosen,rounds]⟩
 | k+1,m,h=>by
  rw [rounds] at h ⊢
  rw [z3d] at h
  obtain ⟨a,b,h1,h2,h3,h4⟩:=y5o base (pack (rounds base k)) m h
  rw [z4c] at h3
  obtain ⟨c,c1,c2,c3⟩:=pieces base k (2*b) (by omega)
  refine ⟨fun j=>if j=k+1 then a else c j,fun j=>?_,?_,?_⟩
  ·by_cases e:j=k+1
   ·simp only [if_pos e];exact h2
   ·simp only [if_neg e];exact c1 j
  ·rw [wide,y4e (d:=c) k (fun j hj=>if_neg (by omega)),c2,if_pos rfl,←h1,Nat.pow_succ,Nat.add_mul,Nat.add_comm (a*_)]
   congr 1
   rw [Nat.mul_comm 2 b,Nat.mul_assoc,Nat.mul_comm 2]
  ·rw [chosen,y0i (d:=c) k (fun j hj=>if_neg (by omega)),if_pos rfl]
   have hp:(syms ((mrg base (pack (rounds base k))).take m)).Perm (syms (base.take a++(pack (rounds base k)).take b)):=List.Perm.flatMap_right _ h4
   rw [z5c,y2h _ b (by omega)] at hp
   exact hp.trans (List.perm_append_comm.trans (c3.append_right _))
/-! ### Worth by symbols -/
def Fair (w:Nat→Nat) (l:List Coin):Prop:=∀x∈l,x.1=(x.2.map w).sum
theorem x2w {w:Nat→Nat} {l:List Coin} (h:Fair w l):worth l=((syms l).map w).sum:=by
 induction l with
 | nil=>rfl
 | cons x r ih =>
  rw [z4u,z3x,List.map_append,List.sum_append,←ih (fun y hy=>h y (by simp [hy])),h x (by simp)]
theorem y6v {w:Nat→Nat}:∀{l:List Coin},Fair w l→Fair w (pack l)
 | [],_=>by simp [pack,Fair]
 | [_],_=>by simp [pack,Fair]
 | a :: b :: r,h=>by
  rw [pack]
  intro x hx
  rcases List.mem_cons.1 hx with rfl|hx
  ·show a.1+b.1=((a.2++b.2).map w).sum
   rw [h a (by simp),h b (by simp),List.map_append,List.sum_append]
  ·exact y6v (l:=r) (fun y hy=>h y (by simp [hy])) x hx
theorem y1n {w:Nat→Nat} {base:List Coin} (h:Fair w base):∀k,Fair w (rounds base k)
 | 0=>h
 | k+1=>fun x hx=>by
  rcases z9w _ _ hx with hx|hx
  ·exact h x hx
  ·exact y6v (y1n h k) x hx
theorem w0t {w:Nat→Nat} {l:List Coin} (h:Fair w l) (m:Nat):pre l m=((syms (l.take m)).map w).sum :=
 x2w (fun x hx=>h x (List.mem_of_mem_take hx))
end Merge
namespace Merge
def lsum (f:Nat→Nat) (L:List Nat):Nat:=(L.map f).sum
theorem x1f (f:Nat→Nat):lsum f []=0:=rfl
theorem z1q (f:Nat→Nat) (x:Nat) (L:List Nat):lsum f (x :: L)=f x+lsum f L:=by simp [lsum]
theorem y1a (f g:Nat→Nat) (L:List Nat):lsum (fun i=>f i+g i) L=lsum f L+lsum g L:=by
 induction L with
 | nil=>rfl
 | cons x r ih=>rw [z1q,z1q,z1q,ih];omega
theorem y5m {f g:Nat→Nat} {L:List Nat} (h:∀i∈L,f i≤g i):lsum f L≤lsum g L:=by
 induction L with
 | nil=>exact Nat.le_refl _
 | cons x r ih =>
  have h1:=h x (by simp)
  have h2:=ih (fun i hi=>h i (by simp [hi]))
  rw [z1q,z1q];omega
theorem z3c {f g:Nat→Nat} {L:List Nat} (h:∀i∈L,f i=g i):lsum f L=lsum g L :=
 Nat.le_antisymm (y5m fun i hi=>Nat.le_of_eq (h i hi)) (y5m fun i hi=>Nat.le_of_eq (h i hi).symm)
theorem z4t (c:Nat) (L:List Nat):lsum (fun _=>c) L=L.length*c:=by
 induction L with
 | nil=>simp [lsum]
 | cons x r ih=>rw [z1q,ih,List.length_cons,Nat.add_mul];omega
theorem y7i (L:List Nat):lsum (fun _=>0) L=0:=by rw [z4t];omega
def jsum (f:Nat→Nat):Nat→Nat
 | 0=>f 0
 | k+1=>jsum f k+f (k+1)
theorem z9s {f g:Nat→Nat}:∀k,(∀j,j≤k→f j=g j)→jsum f k=jsum g k
 | 0,h=>h 0 (Nat.le_refl _)
 | k+1,h=>by rw [jsum,jsum,z9s k (fun j hj=>h j (by omega)),h (k+1) (Nat.le_refl _)]
theorem x6r {f g:Nat→Nat}:∀k,(∀j,j≤k→f j≤g j)→jsum f k≤jsum g k
 | 0,h=>h 0 (Nat.le_refl _)
 | k+1,h=>Nat.add_le_add (x6r k (fun j hj=>h j (by omega))) (h (k+1) (Nat.le_refl _))
theorem z8u (g:Nat→Nat→Nat) (L:List Nat):∀k,jsum (fun j=>lsum (fun i=>g i j) L) k=lsum (fun i=>jsum (g i) k) L
 | 0=>rfl
 | k+1=>by
  rw [jsum,z8u g L k]
  show _=lsum (fun i=>jsum (g i) k+g i (k+1)) L
  rw [y1a]
theorem y2u (c:Nat→Nat):∀k,wide c k=jsum (fun j=>c j*2^j) k
 | 0=>by simp [wide,jsum]
 | k+1=>by rw [wide,jsum,y2u c k]
theorem y3w (base:List Coin) (c:Nat→Nat):∀k,x8e base c k=jsum (fun j=>pre base (c j)) k
 | 0=>rfl
 | k+1=>by rw [x8e,jsum,y3w base c k]
def z0j (w:Nat→Nat) (order:List Nat):List Coin:=order.map fun i=>(w i,[i])
theorem z4w (w:Nat→Nat) (order:List Nat):syms (z0j w order)=order:=by
 induction order with
 | nil=>rfl
 | cons x r ih=>rw [z0j,List.map_cons,z3x];show [x]++syms (z0j w r)=_;rw [ih];rfl
theorem z5q (w:Nat→Nat) (order:List Nat) (m:Nat):(z0j w order).take m=z0j w (order.take m):=by simp [z0j]
theorem z1n (w:Nat→Nat) (order:List Nat):(z0j w order).length=order.length:=by simp [z0j]
theorem x4v (w:Nat→Nat) (order:List Nat):Fair w (z0j w order):=fun x hx=>by
 obtain ⟨i,_,rfl⟩:=List.mem_map.1 hx
 simp
theorem y1j {order:List Nat} (hd:order.Nodup) (w:Nat→Nat):∀ (s:List Nat),(∀i∈s,i∈order)→(s.map w).sum=lsum (fun i=>s.count i*w i) order
 | [],_=>by simp [y7i]
 | x :: s,h=>by
  have ih:=y1j hd w s (fun i hi=>h i (by simp [hi]))
  have hx:=h x (by simp)
  rw [List.map_cons,List.sum_cons,ih]
  have e:lsum (fun i=>(x :: s).count i*w i) order=lsum (fun i=>(if x=i then w i else 0)+s.count i*w i) order:=z3c fun i _=>by
   rw [List.count_cons]
   by_cases e:x=i
   ·subst e;simp [Nat.add_mul];omega
   ·simp [e]
  rw [e,y1a]
  congr 1
  clear e ih h
  induction order with
  | nil=>simp at hx
  | cons y r ih2 =>
   rw [z1q]
   have hd':=List.nodup_cons.1 hd
   by_cases e:x=y
   ·subst e
    rw [if_pos rfl,z3c (g:=fun _=>0) (fun i hi=>if_neg (fun e:x=i=>hd'.1 (by rw [e];exact hi))),y7i];omega
   ·rw [if_neg e,←ih2 hd'.2 (by simpa [e] using hx)];omega
theorem y3j {w:Nat→Nat} {order:List Nat} {c:Nat→Nat}:∀k i,i∈chosen (z0j w order) c k→i∈order
 | 0,i,h=>by rw [chosen,z5q,z4w] at h;exact List.mem_of_mem_take h
 | k+1,i,h=>by
  rw [chosen] at h
  rcases List.mem_append.1 h with h|h
  ·exact y3j k i h
  ·rw [z5q,z4w] at h;exact List.mem_of_mem_take h
theorem y0j {w:Nat→Nat} {order:List Nat} (c:Nat→Nat) (i:Nat):∀k,(chosen (z0j w order) c k).count i=jsum (fun j=>(order.take (c j)).count i) k
 | 0=>by rw [chosen,z5q,z4w];rfl
 | k+1=>by rw [chosen,List.count_append,y0j c i k,z5q,z4w];rfl
theorem y0c {order:List Nat} (hd:order.Nodup) (m i:Nat):(order.take m).count i≤1 :=
 List.nodup_iff_count.1 ((List.take_sublist m order).nodup hd) i
theorem powers (q:Nat→Nat) (hq:∀j,q j≤1):∀k,jsum (fun j=>q j*2^j) k+2^(k+1-jsum q k)≤2^(k+1)∧jsum q k≤k+1
 | 0=>by
  have h0:=hq 0
  simp only [jsum]
  have:q 0=0∨q 0=1:=by omega
  rcases this with e|e<;>rw [e]<;>simp
 | k+1=>by
  obtain ⟨ih,ih2⟩:=powers q hq k
  have h0:=hq (k+1)
  simp only [jsum]
  have:q (k+1)=0∨q (k+1)=1:=by omega
  have hp:2^(k+1+1)=2*2^(k+1):=by rw [Nat.pow_succ];omega
  rcases this with e|e
  ·rw [e]
   refine ⟨?_,by omega⟩
   simp only [Nat.zero_mul,Nat.add_zero]
   rw [hp,show k+1+1-jsum q k=(k+1-jsum q k)+1 by omega,Nat.pow_succ]
   omega
  ·rw [e]
   refine ⟨?_,by omega⟩
   rw [hp,Nat.one_mul,show k+1+1-(jsum q k+1)=k+1-jsum q k by omega]
   omega
/-! ### The lengths -/
def out (w:Nat→Nat) (order:List Nat) (M:Nat) (i:Nat):Nat:=(syms ((rounds (z0j w order) (M-1)).take (2*order.length-2))).count i
theorem enough (w:Nat→Nat) (order:List Nat) (M:Nat) (hM:1≤M) (hn:order.length≤2^M):2*order.length-2≤(rounds (z0j w order) (M-1)).length:=by
 obtain ⟨k,rfl⟩:∃k,M=k+1:=⟨M-1,by omega⟩
 have h:=x0l (z0j w order) (fun _=>order.length) (fun _=>by rw [z1n];exact Nat.le_refl _) k
 have e:∀k,wide (fun _=>order.length) k+order.length=order.length*2^(k+1):=by
  intro k
  induction k with
  | zero=>simp [wide];omega
  | succ k ih=>rw [wide,Nat.pow_succ 2 (k+1),←Nat.mul_assoc];omega
 have e1:=e k
 rw [Nat.add_sub_cancel]
 have hp:2^(k+1)=2*2^k:=by rw [Nat.pow_succ];omega
 by_cases h1:order.length≤1
 ·omega
 ·have h2:(2*order.length-2)*2^k<((rounds (z0j w order) k).length+1)*2^k:=by
   refine Nat.lt_of_le_of_lt ?_ h
   rw [Nat.sub_mul]
   rw [hp] at e1 hn
   rw [show order.length*(2*2^k)=2*order.length*2^k by rw [Nat.mul_comm 2 order.length,Nat.mul_assoc]] at e1
   omega
  have:=Nat.lt_of_mul_lt_mul_right h2
  omega
section
variable {w:Nat→Nat} {order:List Nat} {M:Nat}
theorem z7p (hM:1≤M) (hn:order.length≤2^M):∃c:Nat→Nat,(∀j,c j≤order.length)∧wide c (M-1)=(2*order.length-2)*2^(M-1)∧(∀i,out w order M i=jsum (fun j=>(order.take (c j)).count i) (M-1)) ∧
  (∀i∈syms ((rounds (z0j w order) (M-1)).take (2*order.length-2)),i∈order):=by
 obtain ⟨c,c1,c2,c3⟩:=pieces (z0j w order) (M-1) (2*order.length-2) (enough w order M hM hn)
 rw [z1n] at c1
 exact ⟨c,c1,c2,fun i=>by rw [out,c3.count_eq,y0j],fun i hi=>y3j _ i (c3.mem_iff.1 hi)⟩
theorem x1i (hd:order.Nodup) (hM:1≤M) (hn:order.length≤2^M) (i:Nat):out w order M i≤M:=by
 obtain ⟨c,_,_,c3,_⟩:=z7p (w:=w) hM hn
 rw [c3]
 have:=(powers _ (fun j=>y0c hd (c j) i) (M-1)).2
 omega
theorem y7t (hd:order.Nodup) (hM:1≤M) (hn:order.length≤2^M) (h2:2≤order.length):lsum (fun i=>2^(M-out w order M i)) order≤2^M:=by
 obtain ⟨c,c1,c2,c3,_⟩:=z7p (w:=w) hM hn
 have e1:wide c (M-1)=lsum (fun i=>jsum (fun j=>(order.take (c j)).count i*2^j) (M-1)) order:=by
  rw [y2u,←z8u]
  refine z9s _ (fun j _=>?_)
  have:=y1j hd (fun _=>2^j) (order.take (c j)) (fun i hi=>List.mem_of_mem_take hi)
  rw [←this]
  have hl:(order.take (c j)).length=c j:=by rw [List.length_take];have:=c1 j;omega
  have:=z4t (2^j) (order.take (c j))
  rw [hl] at this
  exact this.symm
 have e2:lsum (fun i=>jsum (fun j=>(order.take (c j)).count i*2^j) (M-1)+2^(M-out w order M i)) order≤lsum (fun _=>2^M) order:=y5m fun i _=>by
  have:=(powers _ (fun j=>y0c hd (c j) i) (M-1)).1
  rw [show M-1+1=M by omega] at this
  rw [c3]
  exact this
 rw [y1a,←e1,c2,z4t] at e2
 obtain ⟨k,rfl⟩:∃k,M=k+1:=⟨M-1,by omega⟩
 rw [Nat.add_sub_cancel] at e2
 have hp:2^(k+1)=2*2^k:=by rw [Nat.pow_succ];omega
 rw [Nat.sub_mul,hp,show order.length*(2*2^k)=2*order.length*2^k by rw [Nat.mul_comm 2 order.length,Nat.mul_assoc]] at e2
 have h3:2*2^k≤2*order.length*2^k:=Nat.mul_le_mul_right _ (by omega)
 rw [hp]
 omega
theorem w1o (hd:order.Nodup) (hM:1≤M) (hn:order.length≤2^M):lsum (fun i=>out w order M i*w i) order=pre (rounds (z0j w order) (M-1)) (2*order.length-2):=by
 obtain ⟨c,_,_,_,c4⟩:=z7p (w:=w) hM hn
 rw [w0t (y1n (x4v w order) _),y1j hd w _ c4]
 rfl
/-! ### No others cost less -/
theorem w1x {x:Coin} {l:List Coin} (hs:Sorted (x :: l)) {m:Nat} (h:m≤l.length):pre (x :: l) m≤pre l m:=by
 rcases m with _|m
 ·rw [z2j,z2j];exact Nat.le_refl _
 ·rw [z2f]
  have hl:Sorted l:=(List.pairwise_cons.1 hs).2
  cases l with
  | nil=>simp at h
  | cons y r =>
   have h1:=(List.pairwise_cons.1 hs).1 y (by simp)
   have h2:=y5w hl (m:=m) (by simp at h ⊢;omega)
   omega
theorem w4u {l s:List Coin} (h:s.Sublist l):Sorted l→pre l s.length≤worth s:=by
 induction h with
 | slnil=>intro _;simp [z2j,x9t]
 | cons x h ih =>
  intro hs
  have:=ih (List.pairwise_cons.1 hs).2
  exact Nat.le_trans (w1x hs h.length_le) this
 | cons_cons x h ih =>
  intro hs
  have:=ih (List.pairwise_cons.1 hs).2
  rw [List.length_cons,z2f,z4u]
  omega
theorem x4d (l:Nat):∀k,l≤k+1→jsum (fun j=>(if k+1-j≤l then 1 else 0)*2^j) k+2^(k+1-l)=2^(k+1):=by
 have gen:∀K k,k≤K→l≤K+1→jsum (fun j=>(if K+1-j≤l then 1 else 0)*2^j) k+(if K+1-k≤l then 2^(K+1-l) else 2^(k+1))=2^(k+1):=by
  intro K k
  induction k with
  | zero =>
   intro _ hl
   simp only [jsum]
   by_cases e:K+1-0≤l
   ·rw [if_pos e,if_pos e,show K+1-l=0 by omega]
   ·rw [if_neg e,if_neg e]
  | succ k ih =>
   intro hk hl
   have ih':=ih (by omega) hl
   have hp:2^(k+1+1)=2*2^(k+1):=by rw [Nat.pow_succ];omega
   rw [jsum]
   by_cases e:K+1-(k+1)≤l
   ·rw [if_pos e,if_pos e,Nat.one_mul,hp]
    by_cases e2:K+1-k≤l
    ·rw [if_pos e2] at ih';omega
    ·rw [if_neg e2] at ih'
     rw [show K+1-l=k+1 by omega]
     omega
   ·rw [if_neg e,if_neg e,Nat.zero_mul,hp]
    rw [if_neg (by omega)] at ih'
    omega
 intro k hl
 have:=gen k k (Nat.le_refl _) hl
 by_cases e:k+1-k≤l
 ·rw [if_pos e] at this;exact this
 ·rw [if_neg e] at this
  obtain rfl:l=0:=by omega
  exact this
theorem x9h (l:Nat):∀k,l≤k+1→jsum (fun j=>if k+1-j≤l then 1 else 0) k=l:=by
 have gen:∀K k,k≤K→jsum (fun j=>if K+1-j≤l then 1 else 0) k=k+1-(K+1-l):=by
  intro K k
  induction k with
  | zero =>
   intro _
   simp only [jsum]
   by_cases e:K+1-0≤l
   ·rw [if_pos e];omega
   ·rw [if_neg e];omega
  | succ k ih =>
   intro hk
   rw [jsum,ih (by omega)]
   by_cases e:K+1-(k+1)≤l
   ·rw [if_pos e];omega
   ·rw [if_neg e];omega
 intro k hl
 rw [gen k k (Nat.le_refl _)];omega
theorem w1h (f:Nat→Nat) (c:Nat) (L:List Nat):lsum (fun i=>f i*c) L=lsum f L*c:=by
 induction L with
 | nil=>simp [x1f]
 | cons x r ih=>rw [z1q,z1q,ih,Nat.add_mul]
theorem x1b (f:Nat→Nat) (c:Nat):∀k,jsum (fun j=>f j*c) k=jsum f k*c
 | 0=>rfl
 | k+1=>by rw [jsum,jsum,x1b f c k,Nat.add_mul]
theorem y1o (p:Nat→Bool) (w:Nat→Nat) (L:List Nat):((L.filter p).map w).sum=lsum (fun i=>(if p i=true then 1 else 0)*w i) L:=by
 induction L with
 | nil=>rfl
 | cons x r ih =>
  rw [z1q]
  by_cases e:p x=true
  ·rw [List.filter_cons_of_pos e,List.map_cons,List.sum_cons,ih,if_pos e];omega
  ·rw [List.filter_cons_of_neg e,ih,if_neg e];omega
theorem x3i (hs:Sorted (z0j w order)) (hM:1≤M) (l:Nat→Nat) (hl:∀i∈order,l i≤M) (hk:lsum (fun i=>2^(M-l i)) order≤2^M) :
  pre (rounds (z0j w order) (M-1)) (2*order.length-2)≤lsum (fun i=>l i*w i) order:=by
 obtain ⟨k,rfl⟩:∃k,M=k+1:=⟨M-1,by omega⟩
 rw [Nat.add_sub_cancel]
 have hc:∀j,(order.filter (fun i=>decide (k+1-j≤l i))).length≤(z0j w order).length:=fun j=>by rw [z1n];exact List.length_filter_le _ _
 have hwide:wide (fun j=>(order.filter (fun i=>decide (k+1-j≤l i))).length) k=lsum (fun i=>jsum (fun j=>(if k+1-j≤l i then 1 else 0)*2^j) k) order:=by
  rw [y2u,←z8u]
  refine z9s _ (fun j _=>?_)
  have:=y1o (fun i=>decide (k+1-j≤l i)) (fun _=>2^j) order
  simp only [decide_eq_true_eq] at this
  rw [←this]
  have h3:=z4t (2^j) (order.filter (fun i=>decide (k+1-j≤l i)))
  exact h3.symm
 have hw2:(2*order.length-2)*2^k≤wide (fun j=>(order.filter (fun i=>decide (k+1-j≤l i))).length) k:=by
  have e:lsum (fun i=>jsum (fun j=>(if k+1-j≤l i then 1 else 0)*2^j) k+2^(k+1-l i)) order=lsum (fun _=>2^(k+1)) order:=z3c fun i hi=>x4d (l i) k (hl i hi)
  rw [y1a,←hwide,z4t] at e
  have hp:2^(k+1)=2*2^k:=by rw [Nat.pow_succ];omega
  rw [hp,show order.length*(2*2^k)=2*order.length*2^k by rw [Nat.mul_comm 2 order.length,Nat.mul_assoc]] at e
  rw [hp] at hk
  rw [Nat.sub_mul]
  omega
 refine Nat.le_trans (best hs _ hc k _ hw2) ?_
 rw [y3w]
 have e:lsum (fun i=>l i*w i) order=jsum (fun j=>lsum (fun i=>(if k+1-j≤l i then 1 else 0)*w i) order) k:=by
  rw [z8u]
  refine z3c fun i hi=>?_
  rw [x1b,x9h (l i) k (hl i hi)]
 rw [e]
 refine x6r _ (fun j _=>?_)
 have hf:=y1o (fun i=>decide (k+1-j≤l i)) w order
 simp only [decide_eq_true_eq] at hf
 rw [←hf]
 have hsub:(z0j w (order.filter (fun i=>decide (k+1-j≤l i)))).Sublist (z0j w order):=(List.filter_sublist).map _
 have:=w4u hsub hs
 rw [z1n] at this
 refine Nat.le_trans this (Nat.le_of_eq ?_)
 simp [worth,z0j,List.map_map,Function.comp_def]
/-! ### They are full -/
theorem z8f {f g:Nat→Nat} {i:Nat}:∀{L:List Nat},L.Nodup→i∈L→lsum (fun x=>if x=i then g x else f x) L+f i=lsum f L+g i
 | [],_,h=>by simp at h
 | y :: r,hd,h=>by
  have hd':=List.nodup_cons.1 hd
  rw [z1q,z1q]
  by_cases e:y=i
  ·subst e
   rw [if_pos rfl,z3c (f:=fun x=>if x=y then g x else f x) (g:=f) (fun x hx=>if_neg (fun e:x=y=>hd'.1 (by rw [←e];exact hx)))]
   omega
  ·rw [if_neg e]
   have:=z8f (f:=f) (g:=g) hd'.2 (show i∈r by rcases List.mem_cons.1 h with h|h;exact absurd h.symm e;exact h)
   omega
theorem y7h {f:Nat→Nat} (hf:∀x,1≤f x) {i:Nat}:∀{L:List Nat},i∈L→f i+(L.length-1)≤lsum f L
 | [],h=>by simp at h
 | y :: r,h=>by
  rw [z1q,List.length_cons,Nat.add_sub_cancel]
  have hr:r.length≤lsum f r:=by
   have:=y5m (L:=r) (f:=fun _=>1) (g:=f) (fun x _=>hf x)
   rw [z4t] at this
   omega
  rcases List.mem_cons.1 h with rfl|h
  ·omega
  ·have:=y7h hf h
   have h1:=hf y
   have h3:0<r.length:=List.length_pos_of_mem h
   omega
theorem greatest (f:Nat→Nat):∀{L:List Nat},L≠[]→∃i,i∈L∧∀x∈L,f x≤f i
 | [],h=>absurd rfl h
 | [y],_=>⟨y,by simp,fun x hx=>by simp at hx;subst hx;exact Nat.le_refl _⟩
 | y :: z :: r,_=>by
  obtain ⟨i,h1,h2⟩:=greatest f (L:=z :: r) (by simp)
  by_cases e:f y≤f i
  ·exact ⟨i,List.mem_cons_of_mem _ h1,fun x hx=>by rcases List.mem_cons.1 hx with rfl|hx;exact e;exact h2 x hx⟩
  ·exact ⟨y,by simp,fun x hx=>by rcases List.mem_cons.1 hx with rfl|hx;exact Nat.le_refl _;have:=h2 x hx;omega⟩
theorem x1e {f:Nat→Nat} {d:Nat}:∀{L:List Nat},(∀x∈L,d∣f x)→d∣lsum f L
 | [],_=>by rw [x1f];exact Nat.dvd_zero d
 | y :: r,h=>by rw [z1q];exact Nat.dvd_add (h y (by simp)) (x1e fun x hx=>h x (by simp [hx]))
theorem x7s (hd:order.Nodup) (hM:1≤M) (hn:order.length≤2^M) (h2:2≤order.length) {i:Nat} (hi:i∈order):1≤out w order M i:=by
 have hk:=y7t (w:=w) hd hM hn h2
 rcases Nat.eq_zero_or_pos (out w order M i) with e|e
 ·have:=y7h (f:=fun i=>2^(M-out w order M i)) (fun x=>Nat.two_pow_pos _) hi
  simp only [e,Nat.sub_zero] at this
  omega
 ·exact e
theorem w1p (hs:Sorted (z0j w order)) (hd:order.Nodup) (hw:∀i∈order,0<w i) (hM:1≤M) (hn:order.length≤2^M) (h2:2≤order.length):lsum (fun i=>2^(M-out w order M i)) order=2^M:=by
 have hk:=y7t (w:=w) hd hM hn h2
 rcases Nat.lt_or_ge (lsum (fun i=>2^(M-out w order M i)) order) (2^M) with hlt|hge
 ·exfalso
  obtain ⟨i,hi,hmax⟩:=greatest (out w order M) (L:=order) (by intro e;rw [e] at h2;simp at h2)
  have hp:=x7s (w:=w) hd hM hn h2 hi
  have hle:=x1i (w:=w) hd hM hn i
  obtain ⟨T,hT⟩:∃T,T=out w order M i:=⟨_,rfl⟩
  -- all are multiples of the least one
  have hdv:2^(M-T)∣lsum (fun i=>2^(M-out w order M i)) order:=x1e fun x hx=>Nat.pow_dvd_pow 2 (by have:=hmax x hx;omega)
  have hdv2:2^(M-T)∣2^M:=Nat.pow_dvd_pow 2 (by omega)
  have hroom:lsum (fun i=>2^(M-out w order M i)) order+2^(M-T)≤2^M:=by
   obtain ⟨a,ha⟩:=hdv
   obtain ⟨b,hb⟩:=hdv2
   rw [ha,hb] at hlt ⊢
   have hab:a<b:=Nat.lt_of_mul_lt_mul_left hlt
   have:=Nat.mul_le_mul_left (2^(M-T)) (show a+1≤b from hab)
   rw [Nat.mul_add,Nat.mul_one] at this
   exact this
  -- a shorter word there
  have hch:=z8f (f:=fun x=>2^(M-out w order M x)) (g:=fun x=>2^(M-(out w order M x-1))) hd hi
  have hk2:lsum (fun x=>2^(M-(if x=i then out w order M x-1 else out w order M x))) order≤2^M:=by
   have e:lsum (fun x=>2^(M-(if x=i then out w order M x-1 else out w order M x))) order=lsum (fun x=>if x=i then 2^(M-(out w order M x-1)) else 2^(M-out w order M x)) order:=z3c fun x _=>by
    by_cases e:x=i
    ·rw [if_pos e,if_pos e]
    ·rw [if_neg e,if_neg e]
   rw [e]
   simp only [←hT] at hch hp hle
   have hpw:2^(M-(T-1))=2*2^(M-T):=by rw [show M-(T-1)=(M-T)+1 by omega,Nat.pow_succ];omega
   rw [hpw] at hch
   omega
  have hco:=x3i hs hM (fun x=>if x=i then out w order M x-1 else out w order M x) (fun x hx=>by
   have:=x1i (w:=w) hd hM hn x
   by_cases e:x=i
   ·simp only [if_pos e];omega
   ·simp only [if_neg e];exact this) hk2
  rw [←w1o hd hM hn] at hco
  have hch2:=z8f (f:=fun x=>out w order M x*w x) (g:=fun x=>(out w order M x-1)*w x) hd hi
  have e2:lsum (fun x=>(if x=i then out w order M x-1 else out w order M x)*w x) order=lsum (fun x=>if x=i then (out w order M x-1)*w x else out w order M x*w x) order:=z3c fun x _=>by
   by_cases e:x=i
   ·rw [if_pos e,if_pos e]
   ·rw [if_neg e,if_neg e]
  rw [e2] at hco
  have hwi:=hw i hi
  have hmul:out w order M i*w i=(out w order M i-1)*w i+w i:=by
   have:out w order M i=(out w order M i-1)+1:=by omega
   rw [this,Nat.add_mul,Nat.one_mul,Nat.add_sub_cancel]
  omega
 ·omega
theorem x3c {l:Nat→Nat} {L:List Nat} (hl:∀i∈L,l i≤M) (d:Nat):lsum (fun i=>2^(M+d-l i)) L=lsum (fun i=>2^(M-l i)) L*2^d:=by
 rw [←w1h]
 refine z3c fun i hi=>?_
 have:=hl i hi
 rw [←Nat.pow_add]
 congr 1
 omega
end
end Merge
namespace Merge
def goes (A B:List Nat) (s:Nat × Nat):Bool:=decide (s.2=B.length) || (decide (s.1<A.length) && decide (A.getD s.1 0≤B.getD s.2 0))
def st (A B:List Nat):Nat→Nat × Nat
 | 0=>(0,0)
 | m+1=>if goes A B (st A B m)=true then ((st A B m).1+1,(st A B m).2) else ((st A B m).1,(st A B m).2+1)
def item (A B:List Nat) (m:Nat):Nat:=if goes A B (st A B m)=true then A.getD (st A B m).1 0 else B.getD (st A B m).2 0
def mgd (A B:List Nat):List Nat:=(List.range (A.length+B.length)).map (item A B)
def ahd (A B:List Nat):List Nat:=(List.range (A.length+B.length+1)).map fun m=>(st A B m).1
theorem z5h {A B:List Nat} {i j:Nat}:goes A B (i,j)=true↔j=B.length∨i<A.length∧A.getD i 0≤B.getD j 0:=by
 simp [goes]
theorem x3w (A B:List Nat):∀m,m≤A.length+B.length→(st A B m).1+(st A B m).2=m∧(st A B m).1≤A.length∧(st A B m).2≤B.length
 | 0,_=>by simp [st]
 | m+1,h=>by
  obtain ⟨h1,h2,h3⟩:=x3w A B m (by omega)
  obtain ⟨⟨i,j⟩,hs⟩:∃s,st A B m=s:=⟨_,rfl⟩
  rw [hs] at h1 h2 h3
  simp only at h1 h2 h3
  rw [st,hs]
  by_cases hg:goes A B (i,j)=true
  ·rw [if_pos hg]
   rw [z5h] at hg
   simp only
   omega
  ·rw [if_neg hg]
   rw [z5h] at hg
   simp only
   omega
theorem z7k (A B:List Nat):(mgd A B).length=A.length+B.length:=by simp [mgd]
theorem z7e (A B:List Nat):(ahd A B).length=A.length+B.length+1:=by simp [ahd]
theorem w3q (A B:List Nat) (m:Nat) (h:m≤A.length+B.length):(ahd A B).getD m 0=(st A B m).1:=by
 simp [ahd,List.getD_eq_getElem?_getD,List.getElem?_range (show m<A.length+B.length+1 by omega)]
def fs (l:List Coin):List Nat:=l.map Prod.fst
theorem z1a (l:List Coin):(fs l).length=l.length:=by simp [fs]
theorem y3o (l:List Coin) (i:Nat) (h:i<l.length):(fs l).getD i 0=(l[i]).1:=by simp [fs,h]
theorem y5n (A B:List Coin):∀m,m≤A.length+B.length→∃P,mrg A B=P++mrg (A.drop (st (fs A) (fs B) m).1) (B.drop (st (fs A) (fs B) m).2)∧P.length=m ∧
  P.Perm (A.take (st (fs A) (fs B) m).1++B.take (st (fs A) (fs B) m).2)∧fs P=(List.range m).map (item (fs A) (fs B))
 | 0,_=>⟨[],by simp [st],rfl,by simp [st],rfl⟩
 | m+1,h=>by
  obtain ⟨P,h1,h2,h3,h4⟩:=y5n A B m (by omega)
  have hok:=x3w (fs A) (fs B) m (by rw [z1a,z1a];omega)
  rw [z1a,z1a] at hok
  have hit:item (fs A) (fs B) m=if goes (fs A) (fs B) (st (fs A) (fs B) m)=true then (fs A).getD (st (fs A) (fs B) m).1 0 else (fs B).getD (st (fs A) (fs B) m).2 0:=rfl
  obtain ⟨⟨i,j⟩,hs⟩:∃s,st (fs A) (fs B) m=s:=⟨_,rfl⟩
  rw [hs] at h1 h3 hok hit
  simp only at h1 h3 hok hit
  rw [st,hs]
  by_cases hg:goes (fs A) (fs B) (i,j)=true
  ·rw [if_pos hg]
   rw [if_pos hg] at hit
   rw [z5h,z1a,z1a] at hg
   have hi:i<A.length:=by omega
   simp only
   refine ⟨P++[A[i]],?_,by simp [h2],?_,?_⟩
   ·rw [h1,List.append_assoc]
    congr 1
    rw [List.drop_eq_getElem_cons hi]
    by_cases hj:j=B.length
    ·rw [hj,List.drop_length,z1k,z1k];rfl
    ·have hj':j<B.length:=by omega
     have hle:(A[i]).1≤(B[j]).1:=by
      have:=(hg.resolve_left hj).2
      rwa [y3o A i hi,y3o B j hj'] at this
     rw [List.drop_eq_getElem_cons hj']
     rw [mrg,if_neg (by omega)]
     rfl
   ·rw [show A.take (i+1)=A.take i++[A[i]] from (List.take_append_getElem hi).symm]
    refine (h3.append_right _).trans ?_
    rw [List.append_assoc,List.append_assoc]
    exact List.Perm.append_left _ List.perm_append_comm
   ·rw [List.range_succ,List.map_append,←h4]
    have e:fs (P++[A[i]])=fs P++[(A[i]).1]:=by simp [fs]
    rw [e,List.map_cons,List.map_nil,hit,y3o A i hi]
  ·rw [if_neg hg]
   rw [if_neg hg] at hit
   rw [z5h,z1a,z1a] at hg
   have hj:j<B.length:=by omega
   simp only
   refine ⟨P++[B[j]],?_,by simp [h2],?_,?_⟩
   ·rw [h1,List.append_assoc]
    congr 1
    rw [List.drop_eq_getElem_cons hj]
    by_cases hi:i=A.length
    ·rw [hi,List.drop_length,z2q,z2q];rfl
    ·have hi':i<A.length:=by omega
     have hlt:(B[j]).1<(A[i]).1:=by
      refine Nat.lt_of_not_le fun hc=>hg (.inr ⟨hi',?_⟩)
      rw [y3o A i hi',y3o B j hj]
      exact hc
     rw [List.drop_eq_getElem_cons hi']
     rw [mrg,if_pos hlt]
     rfl
   ·rw [show B.take (j+1)=B.take j++[B[j]] from (List.take_append_getElem hj).symm]
    refine (h3.append_right _).trans ?_
    rw [List.append_assoc]
   ·rw [List.range_succ,List.map_append,←h4]
    have e:fs (P++[B[j]])=fs P++[(B[j]).1]:=by simp [fs]
    rw [e,List.map_cons,List.map_nil,hit,y3o B j hj]
theorem w3e (A B:List Coin):fs (mrg A B)=mgd (fs A) (fs B):=by
 obtain ⟨P,h1,h2,h3,h4⟩:=y5n A B (A.length+B.length) (Nat.le_refl _)
 have hl:=congrArg List.length h1
 rw [z3d,List.length_append,h2] at hl
 have h0:mrg (A.drop (st (fs A) (fs B) (A.length+B.length)).1) (B.drop (st (fs A) (fs B) (A.length+B.length)).2)=[]:=List.length_eq_zero_iff.1 (by omega)
 rw [h1,h0,List.append_nil,h4]
 unfold mgd
 rw [z1a,z1a]
theorem z6c (A B:List Coin) (m:Nat) (h:m≤A.length+B.length):((mrg A B).take m).Perm (A.take (st (fs A) (fs B) m).1++B.take (st (fs A) (fs B) m).2):=by
 obtain ⟨P,h1,h2,h3,h4⟩:=y5n A B m h
 rw [h1,List.take_append_of_le_length (by omega),List.take_of_length_le (by omega)]
 exact h3
def y0x (zs:List Nat):List Nat:=(List.range (zs.length/2)).map fun i=>zs.getD (2*i) 0+zs.getD (2*i+1) 0
theorem z6u (zs:List Nat):(y0x zs).length=zs.length/2:=by simp [y0x]
theorem x7w:∀l:List Coin,fs (pack l)=y0x (fs l)
 | []=>rfl
 | [x]=>by simp [pack,y0x,fs]
 | a :: b :: r=>by
  rw [pack]
  show (a.1+b.1) :: fs (pack r)=_
  rw [x7w r]
  unfold y0x
  rw [show (fs (a :: b :: r)).length/2=(fs r).length/2+1 by simp [fs];omega,List.range_succ_eq_map,List.map_cons,List.map_map]
  congr 1
def bk (wl:List Nat):Nat→List Nat
 | 0=>[]
 | k+1=>y0x (mgd wl (bk wl k))
def wr (wl:List Nat) (k:Nat):List Nat:=mgd wl (bk wl k)
def z1v (base:List Coin):Nat→List Coin
 | 0=>[]
 | k+1=>pack (rounds base k)
theorem z7r (base:List Coin) (k:Nat):rounds base k=mrg base (z1v base k):=by
 cases k with
 | zero=>exact (z1k base).symm
 | succ k=>rfl
theorem y8r (base:List Coin):∀k,fs (z1v base k)=bk (fs base) k∧fs (rounds base k)=wr (fs base) k
 | 0=>⟨rfl,by rw [z7r,w3e];rfl⟩
 | k+1=>by
  have h:=y8r base k
  have h1:fs (z1v base (k+1))=bk (fs base) (k+1):=by
   show fs (pack (rounds base k))=y0x (mgd (fs base) (bk (fs base) k))
   rw [x7w,h.2]
   rfl
  exact ⟨h1,by rw [z7r,w3e,h1];rfl⟩
theorem z5f (wl:List Nat) (k:Nat):(wr wl k).length=wl.length+(bk wl k).length:=z7k _ _
theorem z8o (wl:List Nat):∀k,(bk wl k).length≤wl.length
 | 0=>by simp [bk]
 | k+1=>by
  have:=z8o wl k
  show (y0x (mgd wl (bk wl k))).length≤_
  rw [z6u,z7k]
  omega
theorem z7x (wl:List Nat) (k:Nat):(bk wl (k+1)).length=(wr wl k).length/2:=z6u _
/-! ### What is taken -/
def alone (wl:List Nat) (k t:Nat):Nat:=(st wl (bk wl k) t).1
theorem x0q (wl:List Nat) (k t:Nat) (h:t≤(wr wl k).length):alone wl k t≤wl.length∧alone wl k t≤t∧t-alone wl k t≤(bk wl k).length:=by
 have:=x3w wl (bk wl k) t (by rw [←z5f];exact h)
 unfold alone
 omega
theorem y3g (wl:List Nat) (k t:Nat) (h:t≤(wr wl (k+1)).length):2*(t-alone wl (k+1) t)≤(wr wl k).length:=by
 have:=(x0q wl (k+1) t h).2.2
 rw [z7x] at this
 omega
def cnt (order wl:List Nat):Nat→Nat→Nat→Nat
 | 0,t,i=>(order.take (alone wl 0 t)).count i
 | k+1,t,i=>(order.take (alone wl (k+1) t)).count i+cnt order wl k (2*(t-alone wl (k+1) t)) i
theorem y2r {a b:List Coin} (h:a.Perm b):(syms a).Perm (syms b):=List.Perm.flatMap_right _ h
theorem w2x (w:Nat→Nat) (order:List Nat) (i:Nat):∀k t,t≤(wr (fs (z0j w order)) k).length→cnt order (fs (z0j w order)) k t i=(syms ((rounds (z0j w order) k).take t)).count i
 | 0,t,h=>by
  have h2:=z6c (z0j w order) [] t (by rw [z5f,z1a] at h;exact h)
  rw [z7r]
  show _=(syms ((mrg (z0j w order) []).take t)).count i
  rw [(y2r h2).count_eq]
  simp only [List.take_nil,List.append_nil,z5q,z4w]
  rfl
 | k+1,t,h=>by
  have hl:(bk (fs (z0j w order)) (k+1)).length=(z1v (z0j w order) (k+1)).length:=by rw [←(y8r (z0j w order) (k+1)).1,z1a]
  have h2:=z6c (z0j w order) (z1v (z0j w order) (k+1)) t (by rw [z5f,z1a,hl] at h;exact h)
  have hst:=x3w (fs (z0j w order)) (bk (fs (z0j w order)) (k+1)) t (by rw [←z5f];exact h)
  rw [(y8r (z0j w order) (k+1)).1] at h2
  rw [z7r,(y2r h2).count_eq,z5c,List.count_append,z5q,z4w]
  have hb:2*(st (fs (z0j w order)) (bk (fs (z0j w order)) (k+1)) t).2≤(rounds (z0j w order) k).length:=by
   have h3:=hst.2.2
   rw [z7x,←(y8r (z0j w order) k).2,z1a] at h3
   omega
  show (order.take (alone _ (k+1) t)).count i+cnt order _ k (2*(t-alone _ (k+1) t)) i=_+(syms ((pack (rounds (z0j w order) k)).take _)).count i
  rw [y2h _ _ hb,w2x w order i k _ (y3g _ k t h)]
  have e:t-alone (fs (z0j w order)) (k+1) t=(st (fs (z0j w order)) (bk (fs (z0j w order)) (k+1)) t).2:=by unfold alone;omega
  rw [e]
  rfl
/-! ### What z1v may be worth -/
theorem x4j {a b:List Coin} (h:a.Perm b):worth a=worth b:=(h.map Prod.fst).sum_nat
theorem y4g:∀l:List Coin,worth (pack l)≤worth l
 | []=>by simp [pack,worth]
 | [_]=>by simp [pack,worth]
 | a :: b :: r=>by
  have:=y4g r
  rw [pack,z4u,z4u,z4u]
  simp only
  omega
theorem x9s (A B:List Coin):worth (mrg A B)=worth A+worth B:=by
 have h:=z6c A B (A.length+B.length) (Nat.le_refl _)
 have hst:=x3w (fs A) (fs B) (A.length+B.length) (by rw [z1a,z1a];omega)
 rw [z1a,z1a] at hst
 rw [List.take_of_length_le (by rw [z3d];omega),List.take_of_length_le (by omega),List.take_of_length_le (by omega)] at h
 rw [x4j h,y8n]
theorem z7b (base:List Coin):∀k,worth (rounds base k)≤(k+1)*worth base
 | 0=>by simp [rounds]
 | k+1=>by
  have h1:=z7b base k
  have h2:=y4g (rounds base k)
  rw [rounds,x9s,show (k+1+1)*worth base=(k+1)*worth base+worth base by rw [Nat.add_mul,Nat.one_mul]]
  omega
theorem y3t:∀{l:List Nat} {x:Nat},x∈l→x≤l.sum
 | y :: r,x,h=>by
  rw [List.sum_cons]
  rcases List.mem_cons.1 h with rfl|h
  ·omega
  ·have:=y3t h;omega
theorem w7g (base:List Coin) (k:Nat):∀x∈wr (fs base) k,x≤(k+1)*worth base:=fun x hx=>by
 rw [←(y8r base k).2] at hx
 exact Nat.le_trans (y3t hx) (z7b base k)
end Merge
namespace L5
open Go.RowKit
theorem below_drewN {B:Nat} {a w:World} (h:Below B a w) (n:Nat):Below B a (w.drewN n):=⟨h.os,h.tape,h.output,h.size,h.block⟩
theorem z5a {w w':World} {B g:Nat} (hg:w.grownBy w' (some g)) (hB:B≤w.heap.size) (h:B≤g):Below B w w' :=
 ⟨hg.os,hg.tape,hg.output,hg.size,fun k hk=>hg.block k (by omega) (fun e=>by injection e with e;omega)⟩
theorem z3h.stays {w w1:World} (hb:Below w.heap.size w w1) {a:Option Addr} {cap:Nat} {zs:List Int} (h:z3h w a cap zs):z3h w1 a cap zs:=by
 rcases h with h|⟨ad,rfl,hc⟩
 ·exact .inl h
 ·exact .inr ⟨ad,rfl,fun j u hj=>z0a hb (hc j u hj)⟩
theorem y2f {w:World} {base n:Nat} {v:Value} {zs:List Int} (h:w.ownsRow base 3 1 v n (zs.map iv)) (hn:n=zs.length):z0w w v zs:=by
 subst hn
 rcases h.2 with ⟨e,e'⟩|⟨g,cap,cur,e,_,hh,_,_,_,ht⟩
 ·exact ⟨none,0,by rw [e,e'],fun h0=>by omega⟩
 ·refine ⟨_,cap,e,fun h0=>⟨g,0,rfl,fun j hj=>?_⟩⟩
  have h2:(cur.toList.take (zs.length*1))[j]?=some (iv zs[j]):=by rw [ht];simp [hj]
  rw [List.getElem?_take,if_pos (by omega)] at h2
  simp only [World.cell?,hh,Nat.zero_add]
  simpa [iv,hj] using h2
theorem y6m (w:World) (base:Nat) (hb:base≤w.heap.size):(w.alloc (.cells #[] 3)).ownsRow base 3 1 (.slice (some ⟨w.heap.size,0,none⟩) 0 0) 0 (([]:List Int).map iv):=by
 have:=World.ownsRow_made (base:=base) (e:=3) (size:=1) w #[] 0 hb (by unfold maxLen;omega) rfl
 simpa using this
end L5
namespace L5
open Go.RowKit
attribute [local go_sem ↓] wp_at_zero wp_at_succ
def ints (l:List Nat):List Int:=l.map (fun (n:Nat)=>(n:Int))
theorem z2w (l:List Nat):(ints l).length=l.length:=by simp [ints]
theorem z6a (l:List Nat) (i:Nat) (h:i<l.length):(ints l).getD i 0=(l.getD i 0:Nat):=by simp [ints,h]
theorem z0c.reads {w:World} {g n:Nat} {C:Nat→Nat} (h:z0c w .i64 3 g n C) {l:List Nat} (hn:l.length=n) (hc:∀i,i<n→C i=l.getD i 0):z0w w (.slice (some ⟨g,0,none⟩) n n) (ints l):=by
 subst hn
 refine ⟨_,l.length,by rw [z2w],fun _=>⟨g,0,rfl,fun j hj=>?_⟩⟩
 rw [z2w] at hj
 rw [Nat.zero_add,h.cell j hj,hc j hj,z6a l j hj]
theorem w4r (zs:List Nat) (v:Value) (w:World) (hr:z0w w v (ints zs)) (hl:zs.length≤131072) (hb:∀x∈zs,x≤1152921504606846976) :
  Calls Tryz.prog 173 #[v] w fun e w'=>∃v',e=.returned v'∧z0w w' v' (ints (Merge.y0x zs))∧Below w.heap.size w w':=by
 obtain ⟨a,cap,rfl,hsp⟩:=hr
 rw [z2w] at hsp ⊢
 have hgb:∀i,zs.getD i 0≤1152921504606846976:=fun i=>by
  by_cases h:i<zs.length
  ·rw [List.getD_eq_getElem?_getD,List.getElem?_eq_getElem h];exact hb _ (List.getElem_mem h)
  ·rw [List.getD_eq_getElem?_getD,List.getElem?_eq_none (by omega)];simp
 have HSP:Hid (0<zs.length→∃b off,a=some ⟨b,off,none⟩∧∀j,j<zs.length→w.cell? ⟨b,off+j,none⟩=some (.int .i64 (zs.getD j 0:Nat))):=qz fun h0=>by
  obtain ⟨b,off,h1,h2⟩:=hsp h0
  exact ⟨b,off,h1,fun j hj=>by rw [h2 j hj,z6a zs j hj]⟩
 have HGB:=qz hgb
 clear hsp hgb hb
 obtain ⟨m,hm⟩:∃m,m=zs.length:=⟨_,rfl⟩
 rw [←hm] at HSP hl ⊢
 have HM:=qz hm
 clear hm
 obtain ⟨n,hn⟩:∃n,n=m/2:=⟨_,rfl⟩
 have hn1:2*n≤m:=by omega
 have hn2:n≤65536:=by omega
 have hdiv:Int.tdiv (m:Int) 2=(n:Int):=by rw [hn];rfl
 have HN:=qz hn
 clear hn
 have hmk:=z2c w n hn2
 have hz:z0c (w.alloc (.cells (z0d .i64 n fun _=>0) 3)) .i64 3 w.heap.size n (fun _=>0):=heap_alloc_new _ _
 have hb0:Below w.heap.size w (w.alloc (.cells (z0d .i64 n fun _=>0) 3)):=(Below.refl _ _).alloc (Nat.le_refl _) _
 obtain ⟨W1,hW1⟩:∃W1,W1=w.alloc (.cells (z0d .i64 n fun _=>0) 3):=⟨_,rfl⟩
 rw [←hW1] at hmk hz hb0
 obtain ⟨g,hg⟩:∃g,g=w.heap.size:=⟨_,rfl⟩
 rw [←hg] at hmk hz
 have HG:=qz hg
 have HZ:=qz hz
 have HB0:=qz hb0
 clear hW1 hz hb0 hg
 go_enter Tryz.func173,Tryz.ntmps173
 go_wp2_with fail
 go_loopg [11] n (fun gk d ws=>∃ (k:Nat) (C:Nat→Nat),gk=n-k∧k≤n∧d=.int .i64 (k:Int)∧z0c ws .i64 3 g n C∧(∀i,i<k→C i=zs.getD (2*i) 0+zs.getD (2*i+1) 0)∧Below w.heap.size w ws)
 case atStart=>exact ⟨0,_,by omega,by omega,rfl,uh HZ,fun i h=>by omega,uh HB0⟩
 case round =>
  obtain ⟨k,C,rfl,hk,rfl,hat,hC,hbel⟩:=hrel
  clear hmk HZ HB0
  by_cases hlt:k<n
  ·obtain ⟨b,off,rfl,hcell⟩:=uh HSP (by omega)
   obtain ⟨q,hq⟩:∃q:Nat,q=2*k:=⟨_,rfl⟩
   obtain ⟨p,hp⟩:∃p:Nat,p=q+1:=⟨_,rfl⟩
   have k1:=z0a hbel (hcell q (by omega))
   have k2:=z0a hbel (hcell p (by omega))
   have b1:=uh HGB q
   have b2:=uh HGB p
   have k3:=hat.cell k hlt
   have k4:=hat.free k
   have HAT:=qz (hat.set k (zs.getD q 0+zs.getD p 0))
   have HC:Hid (∀i,i<k+1→upd C k (zs.getD q 0+zs.getD p 0) i=zs.getD (2*i) 0+zs.getD (2*i+1) 0):=qz fun i hi=>by
    unfold upd
    by_cases e:i=k
    ·rw [if_pos e,e,hp,hq]
    ·rw [if_neg e];exact hC i (by omega)
   have HBEL:Hid (∀x:Value,Below w.heap.size w (wr.drew.setCell ⟨g,k,none⟩ x)):=qz fun x=>hbel.trans (((Below.refl _ _).drew).setCell (by show w.heap.size≤g;exact Nat.le_of_eq (uh HG).symm) x)
   have hqi:2*(k:Int)=(q:Int):=by omega
   have hki:(k:Int)<(n:Int):=by omega
   have hqm:(q:Int)<(m:Int):=by omega
   have hqm1:(p:Int)<(m:Int):=by omega
   have hqp:(q:Int)+1=(p:Int):=by omega
   obtain ⟨x,hx⟩:∃x,x=zs.getD q 0:=⟨_,rfl⟩
   obtain ⟨y,hy⟩:∃y,y=zs.getD p 0:=⟨_,rfl⟩
   rw [←hx] at k1 b1 HAT HC
   rw [←hy] at k2 b2 HAT HC
   have hw1:IntKind.i64.wrap (q:Int)=(q:Int):=IntWalk.i64_in _ (by omega)
   have hw2:IntKind.i64.wrap (p:Int)=(p:Int):=IntWalk.i64_in _ (by omega)
   have hw3:IntKind.i64.wrap ((x:Int)+(y:Int))=(x:Int)+(y:Int):=IntWalk.i64_in _ (by omega)
   clear hcell hat hC hbel hq hp hx hy
   go_wp2_with fail
   refine z6h 15 (by kernel_rfl) (by kernel_rfl) ?_
   simp only [List.take_succ_cons,List.take_zero,List.drop_succ_cons,List.drop_zero]
   repeat still_step
   try refine wpStill_nil ?_
   go_wp2_with fail
   go_roundg (n-(k+1))
   case measure=>omega
   case rel=>exact ⟨k+1,_,rfl,by omega,by go_num,uh HAT,uh HC,uh HBEL _⟩
  ·obtain rfl:k=n:=by omega
   have HR:Hid (z0w wr (.slice (some ⟨g,0,none⟩) k k) (ints (Merge.y0x zs))):=qz (hat.reads (by rw [Merge.z6u,uh HN,uh HM]) (fun i hi=>by
    rw [hC i hi]
    unfold Merge.y0x
    rw [show ∀ (u:List Nat),u.getD i 0=u[i]?.getD 0 from fun u=>List.getD_eq_getElem?_getD,List.getElem?_map,List.getElem?_range (by rw [←uh HM,←uh HN];exact hi)]
    rfl))
   have HB:=qz hbel
   clear hat hC hbel
   go_wp2_with fail
   go_ret
   exact ⟨_,rfl,uh HR,uh HB⟩
end L5
namespace L5
open Go.RowKit
section
variable {P:Program} {md:Region.Mode} {ops:Array Oper} {Q:Exit→Act→World→Prop} {S:World→Prop}
theorem z1u {o:Oper} {fuel:Nat} {listed:Array Bool} {l:List Value} {df:List Deferred} {w:World} (i d:Nat) (s x:Operand) (hr:Region.ready md ops listed=[i]) (hi:ops[i]?=some o) (hd:o.dst=some d)
  (hw:Region.wanted o (yielded ops l.toArray)=true) (ho:o.op=.call { callee:=.builtin .append,args:=#[s,x],argTypes:=#[45,45] }) (hP:P=Tryz.prog)
  (base:Nat) (v:Value) (n:Nat) (xs:List Value) (hs:Act.eval ⟨l.toArray,df⟩ s=v) (hown:w.ownsRow base 3 1 v n xs) (ad:Addr) (z:Int) (hx:Act.eval ⟨l.toArray,df⟩ x=.slice (some ad) 1 1)
  (hnew:w.cell? ad=some (.int .i64 z)) (hb:n+1≤1000000000) (hbase:base≤w.heap.size) (H:Nat) (hH:w.heap.size=H) (hS:∀w',w.grownBy w' v.ownBlock→S w')
  (h:∀g cap w',w'.ownsRow base 3 1 (.slice (some ⟨g,0,none⟩) (n+1) cap) (n+1) (xs++[iv z])→w.grownBy w' v.ownBlock→(v.ownBlock=some g∨g=H)→g<w'.heap.size →
   wpAnyH P md ops Q S fuel (listed.setIfInBounds i true) ⟨(l.set d (.slice (some ⟨g,0,none⟩) (n+1) cap)).toArray,df⟩ w'):wpAnyH P md ops Q S (fuel+1) listed ⟨l.toArray,df⟩ w:=by
 subst hP
 obtain ⟨i0,hii,hz0,hz1,hz2⟩:=info_parts info3'
 refine wpAnyH_ready hr (by simp) (AllReadyH.cons hi (fun K hK=>?_) AllReadyH.nil)
 rw [if_pos hw]
 refine wp_append_lies w s x 45 ho base 3 i0 _ 1 8 Tryz.underlying45 hii hz0 hz1 hz2 rfl (by decide) v n xs hs hown ad 1 1 [iv z] hx rfl (fun j u hj=>?_) (by intro u hu;simp at hu;subst hu;rfl) (by omega) (by unfold maxLen;omega) (by omega) hbase H hH (fun g cap w' h1 h2 h3 h4=>?_)
 ·match j,hj with
  | 0,hj=>simp [iv] at hj;subst hj;simpa [Addr.add] using hnew
 ·have e:Act.put (⟨l.toArray,df⟩:Act) o.dst (.slice (some ⟨g,0,none⟩) (n+1) cap)=⟨(l.set d (.slice (some ⟨g,0,none⟩) (n+1) cap)).toArray,df⟩:=by rw [hd];simp [Act.put]
  rw [e]
  exact hK.out _ _ (hS w' h2) (fun _=>h g cap w' h1 h2 h3 h4)
end
end L5
namespace L5
open Go.RowKit
def two:Array Value:=#[.slice none 0 0,.slice none 0 0]
structure MAt (A B:List Nat) (w ws:World) (bx:Nat) (vi va:Value) (mi ma:Nat):Prop where
 box:ws.heap[bx]?=some (.cells #[vi,va] 236 (0,0))
 res:ws.heap[w.heap.size]?=some (.cells two 236 (0,0))
 oi:ws.ownsRow (w.heap.size+1) 3 1 vi mi ((ints ((Merge.mgd A B).take mi)).map iv)
 oa:ws.ownsRow (w.heap.size+1) 3 1 va ma ((ints ((Merge.ahd A B).take ma)).map iv)
 d1:∀g,vi.ownBlock=some g→va.ownBlock≠some g
 d2:vi.ownBlock≠some bx
 d3:va.ownBlock≠some bx
 lo:w.heap.size<bx
 bel:Below w.heap.size w ws
section
variable {A B:List Nat} {w ws w1:World} {bx:Nat} {vi va:Value} {mi ma:Nat}
theorem MAt.drew (h:MAt A B w ws bx vi va mi ma):MAt A B w ws.drew bx vi va mi ma:=⟨h.box,h.res,h.oi.drew,h.oa.drew,h.d1,h.d2,h.d3,h.lo,h.bel.trans (Below.refl _ _).drew⟩
theorem MAt.drewN (h:MAt A B w ws bx vi va mi ma) (q:Nat):MAt A B w (ws.drewN q) bx vi va mi ma:=⟨h.box,h.res,z0y h.oi (fun _ _=>rfl),z0y h.oa (fun _ _=>rfl),h.d1,h.d2,h.d3,h.lo,below_drewN h.bel q⟩
theorem MAt.c0 (h:MAt A B w ws bx vi va mi ma):ws.cell? ⟨bx,0,none⟩=some vi:=by simp [World.cell?,h.box]
theorem MAt.c1 (h:MAt A B w ws bx vi va mi ma):ws.cell? ⟨bx,1,none⟩=some va:=by simp [World.cell?,h.box]
theorem MAt.lt (h:MAt A B w ws bx vi va mi ma):bx<ws.heap.size:=z0b h.box
theorem y8g {l:List Nat} {n x:Nat} (h:l[n]?=some x):l.take (n+1)=l.take n++[x]:=by
 obtain ⟨h1,h2⟩:=List.getElem?_eq_some_iff.1 h
 rw [←h2]
 exact (List.take_append_getElem h1).symm
theorem MAt.app0 (h:MAt A B w ws bx vi va mi ma) {x g cap:Nat} (hx:(Merge.mgd A B)[mi]?=some x) (o:Obj)
  (hown:w1.ownsRow (w.heap.size+1) 3 1 (.slice (some ⟨g,0,none⟩) (mi+1) cap) (mi+1) ((ints ((Merge.mgd A B).take mi)).map iv++[iv (x:Int)])) (hg:(ws.alloc o).grownBy w1 vi.ownBlock) (hat:vi.ownBlock=some g∨g=ws.heap.size+1) :
  MAt A B w (w1.setCell ⟨bx,0,none⟩ (.slice (some ⟨g,0,none⟩) (mi+1) cap)) bx (.slice (some ⟨g,0,none⟩) (mi+1) cap) va (mi+1) ma:=by
 have hbx:=h.lt
 have hsz:=h.bel.size
 have hlo:=h.lo
 have kp:∀k,k<ws.heap.size→vi.ownBlock≠some k→w1.heap[k]?=ws.heap[k]?:=fun k hk hne=>by
  rw [hg.block k (by simp;omega) (fun e=>hne e.symm),Below.heap_alloc _ _ _ hk]
 have hgb:g≠bx:=by
  rcases hat with e|e
  ·intro c;rw [c] at e;exact h.d2 e
  ·omega
 have hb1:w1.heap[bx]?=some (.cells #[vi,va] 236 (0,0)):=by rw [kp bx hbx h.d2];exact h.box
 have hva:∀k,va.ownBlock=some k→w1.heap[k]?=ws.heap[k]?:=fun k e=>kp k (h.oa.lt k e).2 (fun c=>h.d1 k c e)
 refine ⟨?_,?_,?_,?_,?_,?_,h.d3,hlo,?_⟩
 ·rw [heap_setCell_same w1 bx 0 _ 236 _ hb1];rfl
 ·rw [heap_setCell_other _ _ _ _ (by show w.heap.size≠bx;omega),kp _ (by omega) (fun e=>by have:=(h.oi.lt _ e).1;omega)]
  exact h.res
 ·rw [y8g hx]
  have hown':w1.ownsRow (w.heap.size+1) 3 1 (.slice (some ⟨g,0,none⟩) (mi+1) cap) (mi+1) ((ints ((Merge.mgd A B).take mi++[x])).map iv):=by simpa [ints] using hown
  exact z0y hown' (fun k e=>heap_setCell_other _ _ _ _ (by show k≠bx;injection e with e;rw [←e];exact hgb))
 ·refine z0y h.oa (fun k e=>?_)
  rw [heap_setCell_other _ _ _ _ (by show k≠bx;intro c;rw [c] at e;exact h.d3 e)]
  exact hva k e
 ·intro k e c
  injection e with e
  subst e
  rcases hat with e|e
  ·exact h.d1 _ e c
  ·have:g<ws.heap.size:=(h.oa.lt _ c).2
   omega
 ·intro e;injection e with e;exact hgb e
 ·exact h.bel.trans ⟨hg.os,hg.tape,hg.output,by have:=hg.size;simp at this ⊢;omega,fun k hk=>by
   rw [heap_setCell_other _ _ _ _ (by show k≠bx;omega),kp k (by omega) (fun e=>by have:=(h.oi.lt _ e).1;omega)]⟩
theorem MAt.app1 (h:MAt A B w ws bx vi va mi ma) {x g cap:Nat} (hx:(Merge.ahd A B)[ma]?=some x) (o:Obj)
  (hown:w1.ownsRow (w.heap.size+1) 3 1 (.slice (some ⟨g,0,none⟩) (ma+1) cap) (ma+1) ((ints ((Merge.ahd A B).take ma)).map iv++[iv (x:Int)])) (hg:(ws.alloc o).grownBy w1 va.ownBlock) (hat:va.ownBlock=some g∨g=ws.heap.size+1) :
  MAt A B w (w1.setCell ⟨bx,1,none⟩ (.slice (some ⟨g,0,none⟩) (ma+1) cap)) bx vi (.slice (some ⟨g,0,none⟩) (ma+1) cap) mi (ma+1):=by
 have hbx:=h.lt
 have hsz:=h.bel.size
 have hlo:=h.lo
 have kp:∀k,k<ws.heap.size→va.ownBlock≠some k→w1.heap[k]?=ws.heap[k]?:=fun k hk hne=>by
  rw [hg.block k (by simp;omega) (fun e=>hne e.symm),Below.heap_alloc _ _ _ hk]
 have hgb:g≠bx:=by
  rcases hat with e|e
  ·intro c;rw [c] at e;exact h.d3 e
  ·omega
 have hb1:w1.heap[bx]?=some (.cells #[vi,va] 236 (0,0)):=by rw [kp bx hbx h.d3];exact h.box
 have hvi:∀k,vi.ownBlock=some k→w1.heap[k]?=ws.heap[k]?:=fun k e=>kp k (h.oi.lt k e).2 (fun c=>h.d1 k e c)
 refine ⟨?_,?_,?_,?_,?_,h.d2,?_,hlo,?_⟩
 ·rw [heap_setCell_same w1 bx 1 _ 236 _ hb1];rfl
 ·rw [heap_setCell_other _ _ _ _ (by show w.heap.size≠bx;omega),kp _ (by omega) (fun e=>by have:=(h.oa.lt _ e).1;omega)]
  exact h.res
 ·refine z0y h.oi (fun k e=>?_)
  rw [heap_setCell_other _ _ _ _ (by show k≠bx;intro c;rw [c] at e;exact h.d2 e)]
  exact hvi k e
 ·rw [y8g hx]
  have hown':w1.ownsRow (w.heap.size+1) 3 1 (.slice (some ⟨g,0,none⟩) (ma+1) cap) (ma+1) ((ints ((Merge.ahd A B).take ma++[x])).map iv):=by simpa [ints] using hown
  exact z0y hown' (fun k e=>heap_setCell_other _ _ _ _ (by show k≠bx;injection e with e;rw [←e];exact hgb))
 ·intro k e c
  injection c with c
  subst c
  rcases hat with c|c
  ·exact h.d1 _ e c
  ·have:g<ws.heap.size:=(h.oi.lt _ e).2
   omega
 ·intro e;injection e with e;exact hgb e
 ·exact h.bel.trans ⟨hg.os,hg.tape,hg.output,by have:=hg.size;simp at this ⊢;omega,fun k hk=>by
   rw [heap_setCell_other _ _ _ _ (by show k≠bx;omega),kp k (by omega) (fun e=>by have:=(h.oa.lt _ e).1;omega)]⟩
end
structure Got (w x:World) (room:Nat) (oi oa ob:Option Nat):Prop where
 res:x.heap[w.heap.size]?=some (.cells two 236 (0,0))
 bel:Below w.heap.size w x
 i:∀g,oi=some g→w.heap.size<g∧x.heap[g]?=some (.cells (z0d .i64 room fun _=>0) 3 (0,0))
 a:∀g,oa=some g→w.heap.size<g∧x.heap[g]?=some (.cells (z0d .i64 (room+1) fun _=>0) 3 (0,0))
 b:∀g,ob=some g→w.heap.size<g∧x.heap[g]?=some (.cells two 236 (0,0))
 ia:∀g,oi=some g→oa≠some g
 ib:∀g,oi=some g→ob≠some g
 ab:∀g,oa=some g→ob≠some g
section
variable {w x:World} {room:Nat} {oi oa ob:Option Nat}
theorem Got.start (w:World) (room:Nat):Got w (w.alloc (.cells two 236)).drew room none none none :=
 ⟨heap_alloc_new _ _,((Below.refl _ _).alloc (Nat.le_refl _) _).trans (Below.refl _ _).drew,fun g h=>(by cases h),fun g h=>(by cases h),fun g h=>(by cases h),fun g h=>(by cases h),fun g h=>(by cases h),fun g h=>(by cases h)⟩
theorem Got.size (h:Got w x room oi oa ob):w.heap.size<x.heap.size:=z0b h.res
theorem Got.keep (h:Got w x room oi oa ob) (o:Obj):Got w (x.alloc o) room oi oa ob :=
 ⟨by rw [Below.heap_alloc _ _ _ h.size];exact h.res,h.bel.trans ((Below.refl _ _).alloc h.bel.size _),fun g e=>⟨(h.i g e).1,by rw [Below.heap_alloc _ _ _ (z0b (h.i g e).2)];exact (h.i g e).2⟩,
  fun g e=>⟨(h.a g e).1,by rw [Below.heap_alloc _ _ _ (z0b (h.a g e).2)];exact (h.a g e).2⟩,fun g e=>⟨(h.b g e).1,by rw [Below.heap_alloc _ _ _ (z0b (h.b g e).2)];exact (h.b g e).2⟩,h.ia,h.ib,h.ab⟩
theorem Got.makeI (h:Got w x room none oa ob):Got w (x.alloc (.cells (z0d .i64 room fun _=>0) 3)) room (some x.heap.size) oa ob :=
 have k:=h.keep (.cells (z0d .i64 room fun _=>0) 3)
 ⟨k.res,k.bel,fun g e=>by injection e with e;subst e;exact ⟨h.size,heap_alloc_new _ _⟩,k.a,k.b,fun g e c=>by injection e with e;subst e;have:=z0b (h.a _ c).2;omega,fun g e c=>by injection e with e;subst e;have:=z0b (h.b _ c).2;omega,h.ab⟩
theorem Got.makeA (h:Got w x room oi none ob):Got w (x.alloc (.cells (z0d .i64 (room+1) fun _=>0) 3)) room oi (some x.heap.size) ob :=
 have k:=h.keep (.cells (z0d .i64 (room+1) fun _=>0) 3)
 ⟨k.res,k.bel,k.i,fun g e=>by injection e with e;subst e;exact ⟨h.size,heap_alloc_new _ _⟩,k.b,fun g e c=>by injection c with c;subst c;have:=z0b (h.i _ e).2;omega,h.ib,fun g e c=>by injection e with e;subst e;have:=z0b (h.b _ c).2;omega⟩
theorem Got.makeB (h:Got w x room oi oa none):Got w (x.alloc (.cells two 236)) room oi oa (some x.heap.size) :=
 have k:=h.keep (.cells two 236)
 ⟨k.res,k.bel,k.i,k.a,fun g e=>by injection e with e;subst e;exact ⟨h.size,heap_alloc_new _ _⟩,h.ia,fun g e c=>by injection c with c;subst c;have:=z0b (h.i _ e).2;omega,fun g e c=>by injection c with c;subst c;have:=z0b (h.a _ e).2;omega⟩
theorem y0r {x:World} {base g n room:Nat} {xs:List Value} (hb:base≤g) (h:x.heap[g]?=some (.cells (z0d .i64 room fun _=>0) 3 (0,0))) (hn:n≤room) (hr:room≤maxLen) (hx:xs=List.replicate n (iv 0)):x.ownsRow base 3 1 (.slice (some ⟨g,0,none⟩) n room) n xs:=by
 subst hx
 refine ⟨by simp,.inr ⟨g,room,_,rfl,hb,h,hn,hr,by simp [z0d],?_⟩⟩
 apply List.ext_getElem
 ·simp [z0d];omega
 ·intro j h1 h2
  simp [z0d,iv]
theorem Got.done {A B:List Nat} {gi ga bx:Nat} (h:Got w x room (some gi) (some ga) (some bx)) (hroom:room=A.length+B.length) (hs:room≤1000000) :
  MAt A B w ((x.setCell ⟨bx,0,none⟩ (.slice (some ⟨gi,0,none⟩) 0 room)).setCell ⟨bx,1,none⟩ (.slice (some ⟨ga,0,none⟩) 1 (room+1))) bx (.slice (some ⟨gi,0,none⟩) 0 room) (.slice (some ⟨ga,0,none⟩) 1 (room+1)) 0 1:=by
 obtain ⟨i1,i2⟩:=h.i gi rfl
 obtain ⟨a1,a2⟩:=h.a ga rfl
 obtain ⟨b1,b2⟩:=h.b bx rfl
 have nib:gi≠bx:=fun e=>h.ib gi rfl (by rw [e])
 have nab:ga≠bx:=fun e=>h.ab ga rfl (by rw [e])
 have nia:gi≠ga:=fun e=>h.ia gi rfl (by rw [e])
 have kp:∀k v v',k≠bx→((x.setCell ⟨bx,0,none⟩ v).setCell ⟨bx,1,none⟩ v').heap[k]?=x.heap[k]?:=fun k v v' hk=>by
  rw [heap_setCell_other _ _ _ _ (by exact hk),heap_setCell_other _ _ _ _ (by exact hk)]
 refine ⟨?_,?_,?_,?_,?_,?_,?_,b1,?_⟩
 ·rw [heap_setCell_same _ bx 1 _ 236 _ (heap_setCell_same x bx 0 _ 236 _ b2)];rfl
 ·rw [kp _ _ _ (by omega)];exact h.res
 ·exact y0r (by omega) (by rw [kp _ _ _ nib];exact i2) (by omega) (by unfold maxLen;omega) (by simp [ints])
 ·refine y0r (by omega) (by rw [kp _ _ _ nab];exact a2) (by omega) (by unfold maxLen;omega) ?_
  have:(Merge.ahd A B).take 1=[0]:=by
   unfold Merge.ahd
   rw [show A.length+B.length+1=(A.length+B.length)+1 from rfl,List.range_succ_eq_map]
   rfl
  rw [this]
  rfl
 ·intro g e c;injection e with e;injection c with c;subst e;exact nia c.symm
 ·intro e;injection e with e;exact nib e
 ·intro e;injection e with e;exact nab e
 ·exact h.bel.trans (((Below.refl _ _).setCell (by show w.heap.size≤bx;omega) _).setCell (by show w.heap.size≤bx;omega) _)
end
theorem MAt.grownI {A B:List Nat} {w ws w1:World} {bx:Nat} {vi va:Value} {mi ma:Nat} (h:MAt A B w ws bx vi va mi ma) {o:Obj} (hg:(ws.alloc o).grownBy w1 vi.ownBlock):w1.cell? ⟨bx,0,none⟩=some vi∧w1.frozen? ⟨bx,0,none⟩=false∧Below w.heap.size w w1:=by
 have hbx:=h.lt
 have hsz:=h.bel.size
 have kp:∀k,k<ws.heap.size→vi.ownBlock≠some k→w1.heap[k]?=ws.heap[k]?:=fun k hk hne=>by
  rw [hg.block k (by simp;omega) (fun e=>hne e.symm),Below.heap_alloc _ _ _ hk]
 have hb1:w1.heap[bx]?=some (.cells #[vi,va] 236 (0,0)):=by rw [kp bx hbx h.d2];exact h.box
 exact ⟨by simp [World.cell?,hb1],by simp [World.frozen?,hb1],h.bel.trans ⟨hg.os,hg.tape,hg.output,by have:=hg.size;simp at this;omega,fun k hk=>kp k (by omega) (fun e=>by have:=(h.oi.lt _ e).1;omega)⟩⟩
theorem MAt.grownA {A B:List Nat} {w ws w1:World} {bx:Nat} {vi va:Value} {mi ma:Nat} (h:MAt A B w ws bx vi va mi ma) {o:Obj} (hg:(ws.alloc o).grownBy w1 va.ownBlock):w1.cell? ⟨bx,1,none⟩=some va∧w1.frozen? ⟨bx,1,none⟩=false∧Below w.heap.size w w1:=by
 have hbx:=h.lt
 have hsz:=h.bel.size
 have kp:∀k,k<ws.heap.size→va.ownBlock≠some k→w1.heap[k]?=ws.heap[k]?:=fun k hk hne=>by
  rw [hg.block k (by simp;omega) (fun e=>hne e.symm),Below.heap_alloc _ _ _ hk]
 have hb1:w1.heap[bx]?=some (.cells #[vi,va] 236 (0,0)):=by rw [kp bx hbx h.d3];exact h.box
 exact ⟨by simp [World.cell?,hb1],by simp [World.frozen?,hb1],h.bel.trans ⟨hg.os,hg.tape,hg.output,by have:=hg.size;simp at this;omega,fun k hk=>kp k (by omega) (fun e=>by have:=(h.oa.lt _ e).1;omega)⟩⟩
theorem z4b (w:World) (z:Int):(w.alloc (.cells #[.int .i64 z] 3)).cell? ⟨w.heap.size,0,none⟩=some (.int .i64 z):=by
 simp only [World.cell?,heap_alloc_new];rfl
theorem y1b (w:World) (z:Int):∀ (j:Nat) (u:Value),[iv z][j]?=some u→(w.alloc (.cells #[.int .i64 z] 3)).cell? ((⟨w.heap.size,0,none⟩:Addr).add j)=some u:=by
 intro j u hj
 match j,hj with
 | 0,hj=>simp [iv] at hj;subst hj;simp [Addr.add]
end L5
end Go.Proofs.YtabeanealkopbaaGreat
