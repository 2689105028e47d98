/- Texts of one proof, one behind the other: Q4, R11Pk, R11Un, R11Sy, R11Mem, R11Ow, R11Ha, R11Fr, R11Uf, R11Fo, R11Ib, Q5, Q6, Q7, Q8, BzF, Q9, R11Rl, R11Pp, R11Te, R11Rp, R11Pu, R11Bo, R11Fp, R11Ri. -/
import Derived.Test.YtljdhaepkhhnlaaGreatVB
import Derived.Deep.MidRow
import Derived.Laws.MakeOwn
import Derived.Laws.BytesString
import Derived.Lib.BytesEntry
import Derived.Deep.RegionLaw
import Derived.Deep.RegionWith

set_option linter.unusedVariables false
set_option maxRecDepth 100000
set_option maxHeartbeats 24000000
namespace Go.Proofs.YtljdhaepkhhnlaaGreat
section
open Go.RowKit B4 B4.Mth Infl R11.Runs
attribute [local go_sem ↓] wp_at_zero wp_at_succ
def VRow (w:World) (t:TypeId) (g n:Nat) (V:Nat→Value):Prop:=w.heap[g]?=some (.cells ((List.range n).map V).toArray t (0,0))
section
variable {w w':World} {t:TypeId} {g n:Nat} {V:Nat→Value}
theorem VRow.cell (h:VRow w t g n V) (i:Nat) (hi:i<n):w.cell? ⟨g,i,none⟩=some (V i):=by
 simp only [World.cell?,show w.heap[g]?=_ from h]
 simp only [List.getElem?_toArray,List.getElem?_map]
 rw [List.getElem?_range hi]
 simp
theorem VRow.free (h:VRow w t g n V) (i:Nat):w.frozen? ⟨g,i,none⟩=false:=by simp [World.frozen?,show w.heap[g]?=_ from h]
theorem VRow.lt (h:VRow w t g n V):g<w.heap.size:=z0d h
theorem VRow.set (h:VRow w t g n V) (i:Nat) (v:Value):VRow (w.setCell ⟨g,i,none⟩ v) t g n (fun j=>if j=i then v else V j):=by
 unfold VRow
 rw [heap_setCell_same w g i _ t v h]
 congr 2
 apply Array.ext (by simp)
 intro j j1 j2
 have hj:j<n:=by simpa using j2
 rw [Array.getElem_setIfInBounds (by simpa using hj)]
 simp only [List.getElem_toArray,List.getElem_map,List.getElem_range]
 by_cases e:i=j
 ·subst e;simp
 ·rw [if_neg e,if_neg (by omega)]
theorem VRow.of (h:VRow w t g n V) (hb:w'.heap[g]?=w.heap[g]?):VRow w' t g n V:=by unfold VRow;rw [hb];exact h
theorem VRow.only {rp:Nat} (h:VRow w t g n V) (ho:Only rp w w') (hne:g≠rp):VRow w' t g n V:=h.of (ho.keep g h.lt hne)
theorem VRow.range (h:VRow w t g n V):w.rangeAt g 0 ((List.range n).map V):=by
 intro j v hv
 rw [List.getElem?_map] at hv
 rcases Nat.lt_or_ge j n with hj|hj
 ·rw [List.getElem?_range hj] at hv
  simp only [Option.map_some,Option.some.injEq] at hv
  subst hv
  rw [Nat.zero_add]
  exact h.cell j hj
 ·rw [List.getElem?_eq_none (by simpa using hj)] at hv
  cases hv
end
def six (w:World) (A:Nat) (P:Nat→Option Addr):World:=(((((w.setCell ⟨A,0,none⟩ (.pointer (P 0))).setCell ⟨A,1,none⟩ (.pointer (P 1))).setCell ⟨A,2,none⟩ (.pointer (P 2))).setCell ⟨A,3,none⟩ (.pointer (P 3))).setCell ⟨A,4,none⟩ (.pointer (P 4))).setCell ⟨A,5,none⟩ (.pointer (P 5))
theorem x9w {w:World} {t:TypeId} {A:Nat} {V:Nat→Value} (h:VRow w t A 6 V) (P:Nat→Option Addr):VRow (six w A P) t A 6 (fun j=>.pointer (P j)) :=
 ((((((h.set 0 _).set 1 _).set 2 _).set 3 _).set 4 _).set 5 _)
theorem y4c (w:World) (A:Nat) (P:Nat→Option Addr) (k:Nat) (hk:k≠A):(six w A P).heap[k]?=w.heap[k]?:=by
 unfold six
 simp only [heap_setCell_other _ _ _ _ (show k≠(⟨A,_,none⟩:Addr).block from hk)]
theorem x6r (w:World) (A:Nat) (P:Nat→Option Addr):(six w A P).heap.size=w.heap.size:=by simp [six]
theorem Nums.only {w w':World} {g rp:Nat} {l:List Nat} (h:Nums w g l) (ho:Only rp w w') (hne:g≠rp):Nums w' g l:=z0a.only h ho hne
theorem Nums.reads {w:World} {g:Nat} {l:List Nat} (h:Nums w g l):z0q w (.slice (some ⟨g,0,none⟩) l.length l.length) (l.map fun x:Nat=>(x:Int)):=by
 refine ⟨_,_,by rw [List.length_map],fun _=>⟨g,0,rfl,fun j hj=>?_⟩⟩
 rw [List.length_map] at hj
 have:=z0a.cell h j hj
 rw [Nat.zero_add,this]
 simp [List.getD_eq_getElem?_getD,hj]
theorem x9h (l:List Nat):nat (l.map fun x:Nat=>(x:Int))=l:=by
 unfold nat
 rw [List.map_map]
 exact (List.map_congr_left (fun x _=>by simp)).trans (List.map_id l)
theorem x8e {w:World} {H:Nat} {l:List Nat} {M:Nat} (h:Nums w H l) (hn:1≤l.length∧l.length≤65536) (hl:∀z∈l,z≤M) (hM:1≤M∧M≤20) (hs:Canon.sum l=1048576) :
  Calls Tryz.prog 78 #[.slice (some ⟨H,0,none⟩) l.length l.length,.int .i64 (M:Nat),.bool false] w fun e w'=>∃cp,e=.returned (.tuple #[.pointer (some ⟨cp,0,none⟩),.int .i64 0])∧B4.Code l w' cp w.heap.size w'.heap.size∧Below w.heap.size w w':=by
 refine (x9q _ _ (M:Int) false w h.reads).mono ?_
 rintro e w' ⟨_,_,h3,h4⟩
 have hc:z2f (l.map fun x:Nat=>(x:Int)).length (M:Int)∧∀z∈(l.map fun x:Nat=>(x:Int)),z2l (M:Int) z:=by
  rw [List.length_map]
  refine ⟨⟨by omega,by omega,hn.1,hn.2⟩,fun z hz=>?_⟩
  obtain ⟨x,hx,rfl⟩:=List.mem_map.1 hz
  have:=hl x hx
  exact ⟨by omega,by omega⟩
 rw [x9h] at h3
 obtain ⟨cp,e1,e2⟩:=h3 hc (.inl hs)
 exact ⟨cp,e1,e2,h4⟩
theorem x6v {f n t p q:Nat} {out x:List (List Nat)} {I:In} (h:Bz.tabs f n (t+1) out I p=.ok x q):∃l o,Bz.tabR f n I p=.ok l o∧Bz.tabs f n t (out++[l]) I o=.ok x q:=by
 rw [Bz.tabs] at h
 exact z0r h
def z7e (B:Nat) (w:World) (cs:List (List Nat)) (P:Nat→Option Addr):Prop:=∀i,i<cs.length→∃cp lo hi,P i=some ⟨cp,0,none⟩∧B4.Code (cs.getD i []) w cp lo hi∧B≤lo∧hi≤w.heap.size
theorem Only.of_below' {rp:Nat} {w w1 w2:World} (h:Only rp w w1) (hb:Below w1.heap.size w1 w2):Only rp w w2:=h.trans (Only.of_below hb)
theorem x6q {rp A:Nat} {w w':World} (h:Only rp w w') (hA:w.heap.size≤A) (P:Nat→Option Addr):Only rp w (six w' A P) :=
 Only.setNew (Only.setNew (Only.setNew (Only.setNew (Only.setNew (Only.setNew h hA 0 _) hA 1 _) hA 2 _) hA 3 _) hA 4 _) hA 5 _
theorem x3d {B A:Nat} {w:World} {cs:List (List Nat)} {P:Nat→Option Addr} (h:z7e (B+1) w cs P) (hA:A≤B):z7e A (six w A P) cs P:=fun j hj=>by
 obtain ⟨cp,lo,hi',e1,e2,e3,e4⟩:=h j hj
 exact ⟨cp,lo,hi',e1,e2.keep fun k h1 _=>y4c w A P k (by omega),by omega,by rw [x6r];exact e4⟩
def agg6 (P:Nat→Option Addr):Value:=.agg #[.pointer (P 0),.pointer (P 1),.pointer (P 2),.pointer (P 3),.pointer (P 4),.pointer (P 5)]
theorem y9k {w:World} {A:Nat} {V:Nat→Value} (P:Nat→Option Addr) (h:VRow w 134 A 6 V) (tmps:Array Value) (h6:tmps.getD 6 undef=.pointer (some ⟨A,0,none⟩)) (h7:tmps.getD 7 undef=.int .i64 0) :
  (results Tryz.f89 tmps).run Tryz.prog (six w A P)=.ok (.tuple #[agg6 P,.int .i64 0]) (six w A P):=by
 have hld:=run_loadVar_mid (P:=Tryz.prog) (six w A P) A 0 134 _ _ (x9w h P).range Tryz.underlying134 rfl (by rw [List.length_map,List.length_range];kernel_rfl)
 have e:(List.map (fun j=>Value.pointer (P j)) (List.range 6)).toArray=#[.pointer (P 0),.pointer (P 1),.pointer (P 2),.pointer (P 3),.pointer (P 4),.pointer (P 5)]:=rfl
 rw [e] at hld
 unfold agg6
 simp only [results,show Tryz.f89.results=#[.cell 6 134,.tmp 7] from rfl]
 rw [Array.getD_eq_getD_getElem?] at h6 h7
 simp [Result.andThen,asAddr,h6,h7,hld]
theorem y1w (rp g p f n t q:Nat) (cs:List (List Nat)) (zs:List Nat) (w:World) (h:RB w rp g zs p) (hrp:rp<w.heap.size) (hgw:g<w.heap.size) (hz:zs.length≤10000000000000) (hn:3≤n∧n≤300) (ht:t≤6) (hu:Bz.tabs f n t [] (Bz.bytesH zs) p=.ok cs q) (hs:∀l∈cs,Canon.sum l=1048576) :
  Calls Tryz.prog 89 #[.pointer (some ⟨rp,0,none⟩),.int .i64 (t:Int),.int .i64 (n:Int)] w fun e w'=>∃P:Nat→Option Addr,RdTo rp g zs w q (agg6 P) e w'∧z7e w.heap.size w' cs P∧cs.length=t:=by
 have HLEN:Hid (∀ (p1 o:Nat) (l:List Nat) (w1:World),RB w1 rp g zs p1→rp<w1.heap.size→g<w1.heap.size→Bz.tabR f n (Bz.bytesH zs) p1=.ok l o→_):=qz fun p1 o l w1 (h1:RB w1 rp g zs p1) (h2:rp<w1.heap.size) (h3:g<w1.heap.size) (h4:Bz.tabR f n (Bz.bytesH zs) p1=.ok l o)=>z9i rp g p1 f n o l zs w1 h1 h2 h3 hz hn.2 h4
 have HN3:=qz hn
 have hn300:n≤300:=hn.2
 have HS:=qz hs
 have HU:=qz hu
 obtain ⟨A,hA⟩:∃A,A=w.heap.size:=⟨_,rfl⟩
 have HRA:Hid (rp<A):=qz (by rw [hA];exact hrp)
 have HGA:Hid (g<A):=qz (by rw [hA];exact hgw)
 have HAW:=qz hA
 obtain ⟨o1,ho1⟩:∃o1:Obj,o1=.cells #[Value.pointer none,Value.pointer none,Value.pointer none,Value.pointer none,Value.pointer none,Value.pointer none] 134:=⟨_,rfl⟩
 obtain ⟨o2,ho2⟩:∃o2:Obj,o2=.cells #[Value.slice none 0 0,Value.slice none 0 0,Value.slice none 0 0,Value.slice none 0 0,Value.slice none 0 0,Value.slice none 0 0] 157:=⟨_,rfl⟩
 have hs1:(w.alloc o1).heap.size=A+1:=by rw [hA];simp
 have HR0:Hid (RB ((w.alloc o1).alloc o2) rp g zs p):=qz ((h.alloc hrp hgw o1).alloc (by simp;omega) (by simp;omega) o2)
 have HO0:Hid (Only rp w ((w.alloc o1).alloc o2)):=qz ((Only.alloc _ _ _).trans (Only.alloc _ _ _))
 have HV0:Hid (VRow ((w.alloc o1).alloc o2) 157 (A+1) 6 (fun _=>.slice none 0 0)):=qz (by rw [←hs1,ho2];exact heap_alloc_new _ _)
 have HP0:Hid (VRow ((w.alloc o1).alloc o2) 134 A 6 (fun _=>.pointer none)):=qz (by
  unfold VRow
  rw [Below.heap_alloc _ _ _ (by rw [hs1];omega),hA,ho1]
  exact heap_alloc_new _ _)
 have hw2:∃w2,w2=(w.alloc o1).alloc o2:=⟨_,rfl⟩
 obtain ⟨w2,hw2⟩:=hw2
 rw [←hw2] at HR0 HO0 HV0 HP0
 rw [ho1,ho2] at hw2
 have HW2:=qz hw2
 clear h hu hrp hgw hn hs hs1 ho1 ho2 hw2
 go_enter Tryz.func89,Tryz.ntmps89
 go_wp2_with fail
 rw [←uh HAW,←uh HW2]
 clear hA
 go_loopg [17] t (fun gk d ws=>∃ (i p1:Nat) (xs:List (List Nat)) (hs:Nat→Nat),gk=t-i∧i≤t∧d=.int .i64 (i:Int)∧Hid (xs.length=i)∧Hid (VRow ws 157 (A+1) 6 (fun j=>if j<i then .slice (some ⟨hs j,0,none⟩) n n else .slice none 0 0))∧Hid (VRow ws 134 A 6 (fun _=>.pointer none))∧Hid (∀j,j<i→A+1<hs j∧Nums ws (hs j) (xs.getD j [])∧(xs.getD j []).length=n∧∀z∈xs.getD j [],z≤20)∧Hid (RB ws rp g zs p1)∧Hid (Only rp w ws)∧Hid (Bz.tabs f n (t-i) xs (Bz.bytesH zs) p1=.ok cs q))
 case atStart=>exact ⟨0,p,[],fun _=>0,by omega,by omega,rfl,qz rfl,qz (by simpa using uh HV0),HP0,qz (fun j hj=>by omega),HR0,HO0,HU⟩
 case round =>
  clear HV0 HP0 HR0 HO0 HU HW2
  obtain ⟨i,p1,xs,hs,rfl,hi,rfl,HX,HV,HP,HNS,HR,HO,HI⟩:=hrel
  rename World=>ws
  have hAs:A+1<ws.heap.size:=(uh HV).lt
  by_cases hlt:i<t
  ·have tl:(i:Int)<(t:Int):=by omega
   have hinv:=uh HI
   obtain ⟨k,hk⟩:∃k,t-i=k+1:=⟨t-i-1,by omega⟩
   rw [hk] at hinv
   obtain ⟨l,o,hg1,hnext⟩:=x6v hinv
   have HC:=qz (uh HLEN p1 o l ws (uh HR) (by have:=uh HRA;omega) (by have:=uh HGA;omega) hg1)
   have HN:=qz hnext
   have HK:=qz hk
   clear hinv hg1 hnext hk
   go_wp2_with fail
   refine (uh HC).mono ?_
   rintro e w3 ⟨H,⟨rfl,hr,ho⟩,hH,hnum,hll,hlz⟩
   have hne:A+1≠rp:=by have:=uh HRA;omega
   have hne2:A+1≠g:=by have:=uh HGA;omega
   have HR3:=qz hr
   have HO3:=qz ((uh HO).trans ho)
   have HV3:=qz ((uh HV).only ho hne)
   have HP3:=qz ((uh HP).only ho (by have:=uh HRA;omega))
   have hfz:=(uh HV3).free i
   have hi6:i<6:=by omega
   have hcl:=(uh HV3).cell i hi6
   rw [if_neg (by omega)] at hcl
   have HNS3:Hid (∀j,j<i→A+1<hs j∧Nums w3 (hs j) (xs.getD j [])∧(xs.getD j []).length=n∧∀z∈xs.getD j [],z≤20):=qz fun j hj=>by
    obtain ⟨n1,n2,n3,n4⟩:=uh HNS j hj
    exact ⟨n1,n2.only ho (by have:=uh HRA;omega),n3,n4⟩
   have HNL:Hid (A+1<H∧Nums w3 H l∧l.length=n∧∀z∈l,z≤20):=qz ⟨by omega,hnum,hll,fun z hz=>(hlz z hz).2⟩
   clear hr ho hnum hll hlz hH
   have ti6:(i:Int)<6:=by omega
   go_wp2_with fail
   go_roundg (t-(i+1))
   case measure=>omega
   case rel =>
    have hxl:=uh HX
    refine ⟨i+1,o,xs++[l],fun j=>if j=i then H else hs j,rfl,by omega,by go_num,qz (by simp [hxl]),qz ?_,qz ((uh HP3).of (heap_setCell_other _ _ _ _ (by show A≠A+1;omega))),qz fun j hj=>?_,qz ((uh HR3).setNew (Ne.symm hne) (Ne.symm hne2) _ _),qz (Only.setNew (uh HO3) (by have:=uh HAW;omega) _ _),qz (by rw [show t-(i+1)=k by have:=uh HK;omega];exact uh HN)⟩
    ·have:=(uh HV3).set i (.slice (some ⟨H,0,none⟩) n n)
     unfold VRow at this ⊢
     rw [this]
     congr 3
     refine List.map_congr_left fun j _=>?_
     dsimp only
     by_cases e:j=i
     ·rw [if_pos e,if_pos (by omega),if_pos e]
     ·rw [if_neg e]
      by_cases e2:j<i
      ·rw [if_pos e2,if_pos (by omega),if_neg e]
      ·rw [if_neg e2,if_neg (by omega)]
    ·by_cases e:j=i
     ·have e3:(xs++[l]).getD j []=l:=by rw [e,←hxl];simp [List.getD_eq_getElem?_getD]
      dsimp only
      rw [if_pos e,e3]
      obtain ⟨n1,n2,n3,n4⟩:=uh HNL
      exact ⟨n1,by unfold Nums;exact z0a.other n2 _ _ (by show H≠A+1;omega),n3,n4⟩
     ·have e3:(xs++[l]).getD j []=xs.getD j []:=by rw [List.getD_eq_getElem?_getD,List.getD_eq_getElem?_getD,List.getElem?_append_left (by omega)]
      dsimp only
      rw [if_neg e,e3]
      obtain ⟨n1,n2,n3,n4⟩:=uh HNS3 j (by omega)
      exact ⟨n1,by unfold Nums;exact z0a.other n2 _ _ (by show hs j≠A+1;omega),n3,n4⟩
  ·obtain rfl:t=i:=by omega
   have tl:¬ (t:Int)<(t:Int):=by omega
   have hfin:=uh HI
   rw [Nat.sub_self,Bz.tabs] at hfin
   injection hfin with e1 e2
   subst e1 e2
   clear HI
   obtain ⟨C,hC⟩:∃C,C=ws.heap.size:=⟨_,rfl⟩
   have HCW:=qz hC
   obtain ⟨o3,ho3⟩:∃o3:Obj,o3=.cells #[Value.pointer none,Value.pointer none,Value.pointer none,Value.pointer none,Value.pointer none,Value.pointer none] 134:=⟨_,rfl⟩
   have hbel:Below ws.heap.size ws (ws.alloc o3):=(Below.refl _ _).alloc (Nat.le_refl _) _
   have HV1:Hid (VRow (ws.alloc o3) 157 (A+1) 6 (fun j=>if j<t then .slice (some ⟨hs j,0,none⟩) n n else .slice none 0 0)):=qz ((uh HV).of (hbel.block _ hAs))
   have HP1:Hid (VRow (ws.alloc o3) 134 A 6 (fun _=>.pointer none)):=qz ((uh HP).of (hbel.block _ (by omega)))
   have HQ1:Hid (VRow (ws.alloc o3) 134 C 6 (fun _=>.pointer none)):=qz (by rw [hC,ho3];exact heap_alloc_new _ _)
   have HR1:Hid (RB (ws.alloc o3) rp g zs p1):=qz ((uh HR).alloc (by have:=uh HRA;omega) (by have:=uh HGA;omega) _)
   have HO1:Hid (Only rp w (ws.alloc o3)):=qz ((uh HO).trans (Only.alloc _ _ _))
   have HNS1:Hid (∀j,j<t→A+1<hs j∧hs j<C∧Nums (ws.alloc o3) (hs j) (xs.getD j [])∧(xs.getD j []).length=n∧∀z∈xs.getD j [],z≤20):=qz fun j hj=>by
    obtain ⟨n1,n2,n3,n4⟩:=uh HNS j hj
    exact ⟨n1,by rw [hC];exact z0a.lt n2,z0a.alloc n2 _,n3,n4⟩
   have hAC:A+1<C:=by rw [hC];exact hAs
   obtain ⟨w3,hw3⟩:∃w3,w3=ws.alloc o3:=⟨_,rfl⟩
   rw [←hw3] at HV1 HP1 HQ1 HR1 HO1 HNS1
   rw [ho3] at hw3
   have HW3:=qz hw3
   clear HV HP HNS HR HO hw3 ho3 hbel hC hAs
   go_wp2_with fail
   rw [←uh HCW,←uh HW3]
   clear HCW HW3
   go_loopg [35] t (fun gk d ws=>∃ (i:Nat) (P:Nat→Option Addr),gk=t-i∧i≤t∧d=.int .i64 (i:Int)∧Hid (VRow ws 157 (A+1) 6 (fun j=>if j<t then .slice (some ⟨hs j,0,none⟩) n n else .slice none 0 0))∧Hid (VRow ws 134 A 6 (fun _=>.pointer none))∧Hid (VRow ws 134 C 6 (fun j=>.pointer (P j)))∧Hid (z7e (C+1) ws (xs.take i) P)∧Hid (∀j,j<t→A+1<hs j∧hs j<C∧Nums ws (hs j) (xs.getD j [])∧(xs.getD j []).length=n∧∀z∈xs.getD j [],z≤20)∧Hid (RB ws rp g zs p1)∧Hid (Only rp w ws))
   case atStart=>exact ⟨0,fun _=>none,by omega,by omega,rfl,HV1,HP1,HQ1,qz (fun j hj=>by simp at hj),HNS1,HR1,HO1⟩
   case round =>
    clear HV1 HP1 HQ1 HNS1 HR1 HO1
    obtain ⟨i,P,rfl,hi,rfl,HV,HP,HQ,HCD,HNS,HR,HO⟩:=hrel
    rename World=>wj
    have hCs:C<wj.heap.size:=(uh HQ).lt
    by_cases hlt:i<t
    ·have tl2:(i:Int)<(t:Int):=by omega
     have hi6:i<6:=by omega
     have ti6:(i:Int)<6:=by omega
     have hcl:=(uh HV).cell i hi6
     rw [if_pos hlt] at hcl
     obtain ⟨n1,n2,n3,n4,n5⟩:=uh HNS i hlt
     have hxl:=uh HX
     have hmem:xs.getD i []∈xs:=by rw [List.getD_eq_getElem?_getD,List.getElem?_eq_getElem (by omega)];exact List.getElem_mem _
     have hnew:=x8e (M:=20) n3 (by have:=uh HN3;omega) n5 (by omega) (uh HS _ hmem)
     rw [n4] at hnew
     have HC:=qz hnew
     have HN12:Hid (A+1<hs i∧hs i<C):=qz ⟨n1,n2⟩
     clear hnew n1 n2 n3 n4 n5 hmem hxl
     go_wp2_with fail
     refine (uh HC).mono ?_
     rintro e w4 ⟨cp,rfl,hcode,hb⟩
     have hQ4:=(uh HQ).of (hb.block _ hCs)
     have hfz:=hQ4.free i
     have hclQ:=hQ4.cell i hi6
     have HQ4:=qz hQ4
     have HB4:=qz hb
     have HCO:=qz hcode
     clear hQ4 hb hcode
     go_wp2_with fail
     go_roundg (t-(i+1))
     case measure=>omega
     case rel =>
      have hb:=uh HB4
      have hsz:=hb.size
      have hxl:=uh HX
      refine ⟨i+1,fun j=>if j=i then some ⟨cp,0,none⟩ else P j,rfl,by omega,by go_num,qz ?_,qz ?_,qz ?_,qz fun j hj=>?_,qz fun j hj=>?_,qz ?_,qz ?_⟩
      ·exact (uh HV).of ((heap_setCell_other _ _ _ _ (by show A+1≠C;omega)).trans (hb.block _ (by omega)))
      ·exact (uh HP).of ((heap_setCell_other _ _ _ _ (by show A≠C;omega)).trans (hb.block _ (by omega)))
      ·have:=(uh HQ4).set i (.pointer (some ⟨cp,0,none⟩))
       unfold VRow at this ⊢
       rw [this]
       congr 3
       refine List.map_congr_left fun j _=>?_
       dsimp only
       split<;>rfl
      ·have hks:∀k,C+1≤k→(w4.setCell ⟨C,i,none⟩ (.pointer (some ⟨cp,0,none⟩))).heap[k]?=w4.heap[k]?:=fun k hk=>heap_setCell_other _ _ _ _ (by show k≠C;omega)
       by_cases e:j=i
       ·subst e
        refine ⟨cp,wj.heap.size,w4.heap.size,by simp,?_,by omega,by simp⟩
        have e3:(xs.take (j+1)).getD j []=xs.getD j []:=by rw [List.getD_eq_getElem?_getD,List.getD_eq_getElem?_getD,List.getElem?_take,if_pos (by omega)]
        rw [e3]
        exact (uh HCO).keep fun k h1 _=>hks k (by omega)
       ·have hj':j<(xs.take i).length:=by rw [List.length_take] at hj ⊢;omega
        obtain ⟨cp',lo,hi',e1,e2,e4,e5⟩:=uh HCD j hj'
        have e3:(xs.take (i+1)).getD j []=(xs.take i).getD j []:=by
         rw [List.length_take] at hj'
         rw [List.getD_eq_getElem?_getD,List.getD_eq_getElem?_getD,List.getElem?_take,List.getElem?_take,if_pos (by omega),if_pos (by omega)]
        refine ⟨cp',lo,hi',by simp only [if_neg e];exact e1,?_,e4,by simp;omega⟩
        rw [e3]
        exact e2.keep fun k h1 h2=>(hks k (by omega)).trans (hb.block _ (by omega))
      ·obtain ⟨n1,n2,n3,n4,n5⟩:=uh HNS j hj
       exact ⟨n1,n2,by unfold Nums;exact z0a.other (z0a.stays n3 hb (by omega)) _ _ (by show hs j≠C;omega),n4,n5⟩
      ·exact RB.setNew ((uh HR).keep (hb.block _ (by have:=uh HRA;omega)) (hb.block _ (by have:=uh HGA;omega))) (by have:=uh HRA;omega) (by have:=uh HGA;omega) _ _
      ·exact Only.setNew (Only.of_below' (uh HO) hb) (by have:=uh HAW;omega) _ _
    ·obtain rfl:t=i:=by omega
     have tl2:¬ (t:Int)<(t:Int):=by omega
     have c0:=(uh HQ).cell 0 (by omega)
     have c1:=(uh HQ).cell 1 (by omega)
     have c2:=(uh HQ).cell 2 (by omega)
     have c3:=(uh HQ).cell 3 (by omega)
     have c4:=(uh HQ).cell 4 (by omega)
     have c5:=(uh HQ).cell 5 (by omega)
     have z0:=(uh HP).free 0
     have z1:=(uh HP).free 1
     have z2:=(uh HP).free 2
     have z3:=(uh HP).free 3
     have z4:=(uh HP).free 4
     have z5:=(uh HP).free 5
     have d0:=(uh HP).cell 0 (by omega)
     have d1:=(uh HP).cell 1 (by omega)
     have d2:=(uh HP).cell 2 (by omega)
     have d3:=(uh HP).cell 3 (by omega)
     have d4:=(uh HP).cell 4 (by omega)
     have d5:=(uh HP).cell 5 (by omega)
     go_wp2_with fail
     (try simp only [Exit.inBlock,Exit.then])
     have hA1:=uh HRA
     have hA2:=uh HGA
     have hoth:=y4c wj A P
     have hcd:=uh HCD
     rw [List.take_of_length_le (by rw [uh HX];exact Nat.le_refl _)] at hcd
     have haw:=uh HAW
     exact ⟨rfl,_,y9k P (uh HP) _ rfl rfl,P,⟨rfl,(uh HR).keep (hoth _ (by omega)) (hoth _ (by omega)),x6q (uh HO) (by omega) P⟩,by rw [←haw];exact x3d hcd (by omega),uh HX⟩
end
namespace R11
open Go.RowKit Runs
attribute [local go_sem ↓] wp_at_zero wp_at_succ
theorem z3r {b:List Nat} {i:Nat} (h:i<b.length):b.drop i=b.getD i 0 :: b.drop (i+1):=by
 rw [List.drop_eq_getElem_cons h,List.getD_eq_getElem?_getD,List.getElem?_eq_getElem h]
 rfl
theorem z2d (b:List Nat) (i j:Nat):(b.drop i).getD j 0=b.getD (i+j) 0:=by
 rw [List.getD_eq_getElem?_getD,List.getElem?_drop,List.getD_eq_getElem?_getD]
theorem w1u {b:List Nat} {at_ m:Nat} (h1:at_+m≤b.length) (h0:1≤m) (hm:m≤259) (he:∀j,j<m→b.getD (at_+j) 0=b.getD at_ 0) (hs:at_+m=b.length∨m=259∨b.getD (at_+m) 0≠b.getD at_ 0):lead (b.getD at_ 0) 258 (b.drop (at_+1))+1=m:=by
 have:=x1c (b.getD at_ 0) 258 (b.drop (at_+1)) (m-1) (by omega) (by simp;omega) (fun j hj=>by
  rw [z2d,show at_+1+j=at_+(j+1) by omega]
  exact he (j+1) (by omega)) (by
  rcases hs with h|h|h
  ·exact .inr (.inl (by simp;omega))
  ·exact .inl (by omega)
  ·refine .inr (.inr ?_)
   rw [z2d,show at_+1+(m-1)=at_+m by omega]
   exact h)
 omega
theorem x2c {b:List Nat} {at_ m:Nat} (h:at_<b.length) (hm:lead (b.getD at_ 0) 258 (b.drop (at_+1))+1=m):z0p (b.drop at_)=piece (b.getD at_ 0) m++z0p (b.drop (at_+m)):=by
 rw [z3r h,z3c,hm,List.drop_drop]
 congr 3
 omega
end R11
namespace R11
open Go.RowKit Runs
attribute [local go_sem ↓] wp_at_zero wp_at_succ
def w0k (w:World) (out:List Nat × Nat) (e:Ending) (w':World):Prop:=∃v,e=.returned (.tuple #[v,.int .i64 (out.2:Int)])∧StB w w' v out.1
theorem StB.none (w w':World) (h:Below w.heap.size w w'):StB w w' (.slice none 0 0) []:=⟨World.ownsRow_nil _ _ _ _,h⟩
end R11
namespace R11
open Go.RowKit Runs
attribute [local go_sem ↓] wp_at_zero wp_at_succ
def z1d (k:Nat):List Int:=(digits k).map fun d:Nat=>(d:Int)
theorem z6f:z1d 0=[]:=by simp [z1d,digits]
theorem y4v (k:Nat):z1d (2*k+1)=0 :: z1d k:=by
 unfold z1d
 rw [digits,show 2*k%2=0 by omega,show 2*k/2=k by omega]
 rfl
theorem y2w (k:Nat):z1d (2*k+2)=1 :: z1d k:=by
 unfold z1d
 rw [show 2*k+2=(2*k+1)+1 by omega,digits,show (2*k+1)%2=1 by omega,show (2*k+1)/2=k by omega]
 rfl
theorem z7l:∀k,(z1d k).length≤k:=by
 intro k
 induction k using Nat.strongRecOn with
 | ind k ih =>
  cases k with
  | zero=>simp [z6f]
  | succ k =>
   unfold z1d
   rw [digits]
   have:=ih (k/2) (by omega)
   unfold z1d at this
   simp at this ⊢
   omega
def symI (n:Int):List Int→Nat→List Int→List Int × Nat
 | [],run,out=>(out++z1d run++[n+1],0)
 | p :: r,run,out=>if p<0∨n≤p then ([],2) else if p=0 then symI n r (run+1) out else symI n r 0 (out++z1d run++[p+1])
def z6o (ps:List Int) (n:Int):List Int × Nat:=if n<1∨256<n then ([],2) else symI n ps 0 []
theorem y2d (n:Nat):∀ (ps:List Nat) (run:Nat) (out:List Int),(∀p∈ps,p<n)→symI n (ps.map fun p:Nat=>(p:Int)) run out=(out++(symG n ps run).map (fun d:Nat=>(d:Int)),0)
 | [],run,out,_=>by simp [symI,symG,z1d]
 | p :: r,run,out,h=>by
  have hp:=h p (List.mem_cons_self ..)
  rw [List.map_cons,symI,if_neg (by omega),symG]
  by_cases e:p=0
  ·rw [if_pos (by omega),if_pos e,y2d n r (run+1) out fun x hx=>h x (List.mem_cons_of_mem _ hx)]
  ·rw [if_neg (by omega),if_neg e,y2d n r 0 _ fun x hx=>h x (List.mem_cons_of_mem _ hx)]
   simp [z1d]
def IntsIn (w:World) (a0:Option Addr) (l:List Int):Prop:=∀j,j<l.length→∃g off,a0=some ⟨g,off,none⟩∧w.cell? ⟨g,off+j,none⟩=some (.int .i64 (l.getD j 0))
theorem z4e {b:List Int} {i:Nat} (h:i<b.length):b.drop i=b.getD i 0 :: b.drop (i+1):=by
 rw [List.drop_eq_getElem_cons h,List.getD_eq_getElem?_getD,List.getElem?_eq_getElem h]
 rfl
def x8m (w:World) (out:List Int × Nat) (e:Ending) (w':World):Prop:=∃v,e=.returned (.tuple #[v,.int .i64 (out.2:Int)])∧St w w' v (out.1.map iv)
theorem St.none (w w':World) (h:Below w.heap.size w w'):St w w' (.slice none 0 0) []:=⟨World.ownsRow_nil _ _ _ _,h⟩
end R11
namespace R11
open Go.RowKit Runs
def upd (T:Nat→Nat) (j y:Nat):Nat→Nat:=fun i=>if i=j then y else T i
theorem z0d {w:World} {k:Nat} {o:Obj} (h:w.heap[k]?=some o):k<w.heap.size:=by
 rcases Nat.lt_or_ge k w.heap.size with h'|h'
 ·exact h'
 ·rw [Array.getElem?_eq_none h'] at h;cases h
def z0b (k:IntKind) (n:Nat) (C:Nat→Nat):Array Value:=((List.range n).map fun i=>Value.int k (C i:Int)).toArray
theorem z1k {k:IntKind} {n:Nat} {C C':Nat→Nat} (h:∀i,i<n→C i=C' i):z0b k n C=z0b k n C':=by
 unfold z0b
 congr 1
 refine List.map_congr_left fun i hi=>?_
 simp at hi
 rw [h i hi]
def z0a (w:World) (k:IntKind) (t:TypeId) (g n:Nat) (C:Nat→Nat):Prop:=w.heap[g]?=some (.cells (z0b k n C) t (0,0))
section
variable {w w':World} {k:IntKind} {t:TypeId} {g n B:Nat} {C C':Nat→Nat}
theorem z0a.cell (h:z0a w k t g n C) (i:Nat) (hi:i<n):w.cell? ⟨g,i,none⟩=some (.int k (C i:Int)):=by
 simp only [World.cell?,show w.heap[g]?=_ from h]
 simp only [z0b,List.getElem?_toArray,List.getElem?_map]
 rw [List.getElem?_range hi]
 simp
theorem z0a.free (h:z0a w k t g n C) (i:Nat):w.frozen? ⟨g,i,none⟩=false:=by
 simp [World.frozen?,show w.heap[g]?=_ from h]
theorem z0a.lt (h:z0a w k t g n C):g<w.heap.size:=z0d h
theorem z0a.set (h:z0a w k t g n C) (i x:Nat):z0a (w.setCell ⟨g,i,none⟩ (.int k (x:Int))) k t g n (upd C i x):=by
 unfold z0a
 rw [heap_setCell_same w g i _ t (.int k (x:Int)) h]
 congr 2
 apply Array.ext (by simp [z0b])
 intro j j1 j2
 have hj:j<n:=by simpa [z0b] using j2
 rw [Array.getElem_setIfInBounds (by simpa [z0b] using hj)]
 simp only [z0b,upd,List.getElem_toArray,List.getElem_map,List.getElem_range]
 by_cases e:i=j
 ·subst e;simp
 ·rw [if_neg e,if_neg (by omega)]
theorem z0a.of (h:z0a w k t g n C) (hb:w'.heap[g]?=w.heap[g]?):z0a w' k t g n C:=by
 unfold z0a
 rw [hb]
 exact h
theorem z0a.congr (h:z0a w k t g n C) (hc:∀i,i<n→C i=C' i):z0a w k t g n C':=by
 unfold z0a
 rw [←z1k hc]
 exact h
end
theorem z7w (k:IntKind) (n:Nat) (C:Nat→Nat) (i:Nat) (hi:i<n):(z0b k n C)[i]?=some (.int k (C i:Int)):=by
 unfold z0b
 simp [List.getElem?_range hi]
theorem z0e (w:World) (n:Nat) (hn:n≤2000000):(Instr.makeSlice 49 (.int .i64 (n:Int)) (.int .i64 (n:Int))).run Tryz.prog w=.ok (.slice (some ⟨w.heap.size,0,none⟩) n n) (w.alloc (.cells (z0b .i64 n (fun _=>0)) 3)):=by
 obtain ⟨i0,hi,hz0,hz1,hz2⟩:=info_parts info3'
 have:=run_make (P:=Tryz.prog) w 49 3 i0 (.int .i64 0) Tryz.underlying49 hi hz0 .i64 .i64 (n:Int) (n:Int) (by omega) (by omega) (by rw [hz2];omega) (by omega)
 rw [hz1] at this
 rw [this]
 congr 3
 apply Array.ext (by simp [madeCells,z0b])
 intro k k1 k2
 simp [z0b,madeCells,Value.cells,Nat.mod_one]
theorem z4d (w:World) (n:Nat) (hn:n≤2000000):(Instr.makeSlice 22 (.int .i64 (n:Int)) (.int .i64 (n:Int))).run Tryz.prog w=.ok (.slice (some ⟨w.heap.size,0,none⟩) n n) (w.alloc (.cells (z0b .u8 n (fun _=>0)) 5)):=by
 obtain ⟨i0,hi,hz0,hz1,hz2⟩:=info_parts info5
 have:=run_make (P:=Tryz.prog) w 22 5 i0 (.int .u8 0) Tryz.underlying22 hi hz0 .i64 .i64 (n:Int) (n:Int) (by omega) (by omega) (by rw [hz2];omega) (by omega)
 rw [hz1] at this
 rw [this]
 congr 3
 apply Array.ext (by simp [madeCells,z0b])
 intro k k1 k2
 simp [z0b,madeCells,Value.cells,Nat.mod_one]
end R11
namespace R11
open Go.RowKit Runs
def Row (lo hi:Nat) (w:World) (v:Value) (k:IntKind) (t:TypeId) (l:List Nat):Prop :=
 ∃a cap,v=.slice a l.length cap∧(0<l.length→∃g cs,a=some ⟨g,0,none⟩∧lo≤g∧g<hi∧w.heap[g]?=some (.cells cs t (0,0))∧∀j,j<l.length→cs[j]?=some (.int k ((l.getD j 0:Nat):Int)))
structure Chg (lo hi:Nat) (w w':World):Prop where
 os:w'.os=w.os
 tape:w'.tape=w.tape
 output:w'.output=w.output
 size:w.heap.size≤w'.heap.size
 keep:∀k,k<w.heap.size→(k<lo∨hi≤k)→w'.heap[k]?=w.heap[k]?
theorem Chg.refl (lo hi:Nat) (w:World):Chg lo hi w w:=⟨rfl,rfl,rfl,Nat.le_refl _,fun _ _ _=>rfl⟩
theorem Chg.below {lo hi B:Nat} {w0 w w':World} (h:Chg lo hi w w') (hb:Below B w0 w) (hB:B≤lo) (hs:B≤w.heap.size):Below B w0 w' :=
 ⟨h.os.trans hb.os,h.tape.trans hb.tape,h.output.trans hb.output,Nat.le_trans hb.size h.size,fun k hk=>by rw [h.keep k (by omega) (.inl (by omega))];exact hb.block k hk⟩
theorem Row.of_below {lo hi:Nat} {w w':World} {v:Value} {k:IntKind} {t:TypeId} {l:List Nat} (h:Row lo hi w v k t l) (hb:Below w.heap.size w w'):Row lo hi w' v k t l:=by
 obtain ⟨a,cap,rfl,hs⟩:=h
 refine ⟨a,cap,rfl,fun h0=>?_⟩
 obtain ⟨g,cs,e,h1,h2,h3,h4⟩:=hs h0
 exact ⟨g,cs,e,h1,h2,by rw [hb.block g (z0d h3)];exact h3,h4⟩
theorem Row.wide {lo hi lo' hi':Nat} {w:World} {v:Value} {k:IntKind} {t:TypeId} {l:List Nat} (h:Row lo hi w v k t l) (h1:lo'≤lo) (h2:hi≤hi'):Row lo' hi' w v k t l:=by
 obtain ⟨a,cap,rfl,hs⟩:=h
 refine ⟨a,cap,rfl,fun h0=>?_⟩
 obtain ⟨g,cs,e,h3,h4,h5⟩:=hs h0
 exact ⟨g,cs,e,by omega,by omega,h5⟩
theorem Row.nil (lo hi:Nat) (w:World) (k:IntKind) (t:TypeId):Row lo hi w (.slice none 0 0) k t []:=⟨none,0,rfl,fun h=>by simp at h⟩
theorem z7a {lo:Nat} {w:World} {g:Nat} {k:IntKind} {t:TypeId} {l:List Nat} {n:Nat} (hn:l.length=n) (h:z0a w k t g n (fun i=>l.getD i 0)) (hg:lo≤g):Row lo w.heap.size w (.slice (some ⟨g,0,none⟩) n n) k t l:=by
 subst hn
 exact ⟨_,_,rfl,fun _=>⟨g,_,rfl,hg,h.lt,h,fun j hj=>z7w k _ _ j hj⟩⟩
theorem x9u {base size n:Nat} {w:World} {v:Value} {k:IntKind} {t:TypeId} {l:List Nat} (hs:size=1) (h:w.ownsRow base t size v l.length (l.map fun i:Nat=>Value.int k (i:Int))):Row base w.heap.size w v k t l:=by
 subst hs
 rcases h.2 with ⟨e1,e2⟩|⟨g,cap,cur,e1,hb,hg,hn,_,_,ht⟩
 ·exact ⟨none,0,by rw [e1,e2],fun h0=>by omega⟩
 ·refine ⟨_,cap,e1,fun h0=>⟨g,cur,rfl,hb,z0d hg,hg,fun j hj=>?_⟩⟩
  have hx:(l.map fun i:Nat=>Value.int k (i:Int))[j]?=some (.int k ((l.getD j 0:Nat):Int)):=by
   simp [List.getElem?_map,List.getElem?_eq_getElem hj,List.getD_eq_getElem?_getD]
  rw [←ht,List.getElem?_take] at hx
  split at hx
  ·simpa using hx
  ·cases hx
def bs (zs:List Nat):ByteArray:=⟨(zs.map UInt8.ofNat).toArray⟩
def Reads (w:World) (v:Value) (zs:List Nat):Prop :=
 ∃a cap,v=.slice a zs.length cap∧(0<zs.length→∃ad,a=some ad∧∀ (j:Nat) u,(zs.map bv)[j]?=some u→w.cell? (ad.add j)=some u)
theorem x0f (w:World) (a:Option Addr) (cap:Nat):(convert 22 9 (.slice a 0 cap)).run Tryz.prog w=.ok (.string ⟨#[]⟩) w:=by
 rw [run_convert_bytes_string w 22 9 5 a 0 cap Tryz.underlying22 Tryz.underlying5 Tryz.underlying9]
 cases a<;>simp [Conv.bytesToString,loadCells]<;>rfl
theorem conv_reads {w:World} {v:Value} {zs:List Nat} (h:Reads w v zs) (hs:∀z∈zs,z<256):(convert 22 9 v).run Tryz.prog w=.ok (.string (bs zs)) w:=by
 by_cases h0:zs.length=0
 ·obtain ⟨a,cap,rfl,_⟩:=h
  obtain rfl:zs=[]:=List.eq_nil_of_length_eq_zero h0
  exact x0f w a cap
 ·obtain ⟨a,cap,rfl,hc⟩:=h
  obtain ⟨ad,rfl,hc2⟩:=hc (by omega)
  have:=run_convert_bytes_back w 22 9 5 ad cap (zs.map UInt8.ofNat) Tryz.underlying22 Tryz.underlying5 Tryz.underlying9 (by
   intro j hj
   simp at hj
   have hzj:=hs zs[j] (List.getElem_mem hj)
   rw [hc2 j (bv zs[j]) (by simp [hj])]
   simp [bv,Nat.mod_eq_of_lt hzj])
  simpa [bs] using this
theorem Chg.set {lo hi g:Nat} {w w':World} (h:Chg lo hi w w') (i:Nat) (v:Value) (h1:lo≤g) (h2:g<hi):Chg lo hi w (w'.setCell ⟨g,i,none⟩ v) :=
 ⟨h.os,h.tape,h.output,by simpa using h.size,fun k hk hd=>by rw [heap_setCell_other _ _ _ _ (by show k≠g;omega)];exact h.keep k hk hd⟩
theorem drewN_chg {lo hi:Nat} {w w':World} (h:Chg lo hi w w') (q:Nat):Chg lo hi w (w'.drewN q):=⟨h.os,h.tape,h.output,h.size,h.keep⟩
end R11
namespace R11
open Go.RowKit Runs
attribute [local go_sem ↓] wp_at_zero wp_at_succ
end R11
namespace R11
open Go.RowKit Runs
attribute [local go_sem ↓] wp_at_zero wp_at_succ
theorem z3q (ys:List Nat):∀u∈ys.map bv,u.oneCell'=true:=by
 intro u hu
 obtain ⟨b,_,rfl⟩:=List.mem_map.1 hu
 rfl
theorem z9q {w:World} {ad:Addr} {ys:List Nat} (h:∀j,j<ys.length→w.cell? (ad.add j)=some (bv (ys.getD j 0))):∀ (j:Nat) u,(ys.map bv)[j]?=some u→w.cell? (ad.add j)=some u:=by
 intro j u hu
 have hj:j<ys.length:=by
  rcases Nat.lt_or_ge j ys.length with h'|h'
  ·exact h'
  ·rw [List.getElem?_eq_none (by rw [List.length_map];exact h')] at hu;cases hu
 rw [h j hj,←hu,List.getElem?_map,List.getD_eq_getElem?_getD,List.getElem?_eq_getElem hj]
 rfl
theorem x4c {ops:Array Oper} {rest:List Oper} {o:Oper} {a:Act} {Q:Exit→Act→World→Prop} {w0 ws:World} (hgd:o.guard=none) (s x:Operand)
  (ho:o.op=.call { callee:=.builtin .append,args:=#[s,x],argTypes:=#[22,22] }) (va:Value) (xs ys:List Nat) (ad:Addr) (m c:Nat) (hs:a.eval s=va) (hx:a.eval x=.slice (some ad) m c) (hm:ys.length=m)
  (hA:StB w0 ws va xs) (hnews:∀j,j<ys.length→ws.cell? (ad.add j)=some (bv (ys.getD j 0))) (hlen:(xs.length+m)≤140737488355328)
  (h:∀v' w',StB w0 w' v' (xs++ys)→wpList Tryz.prog ops Q rest (a.put o.dst v') w'):wpList Tryz.prog ops Q (o :: rest) a ws:=by
 obtain ⟨i0,hi,hz0,hz1,hz2⟩:=info_parts info5
 refine wpList_append_own_at ws hgd s x 22 ho w0.heap.size 5 i0 (.int .u8 0) 1 1 Tryz.underlying22 hi hz0 hz1 hz2 rfl (by decide) va xs.length (xs.map bv) hs hA.own ad m c (ys.map bv) hx (by rw [List.length_map];omega) (z9q hnews) (z3q ys) (by unfold maxLen;omega) (by omega) hA.bel.size ?_
 intro v' w' h2 h3 _ h5
 exact h v' w' ⟨by rw [List.length_append,List.map_append,hm];exact h2,hA.bel.grown h3 hA.bel.size (fun k e=>(hA.own.lt k e).1)⟩
end R11
namespace R11
open Go.RowKit Runs
attribute [local go_sem ↓] wp_at_zero wp_at_succ
theorem StB.lies {w0 w:World} {v:Value} {xs:List Nat} (h:StB w0 w v xs):∃a0 cap,v=.slice a0 xs.length cap∧xs.length≤cap∧BytesIn w a0 xs∧∀g off,a0=some ⟨g,off,Option.none⟩→w0.heap.size≤g:=by
 rcases h.own.2 with ⟨e1,e2⟩|⟨g,cap,cur,e1,hb,hh,hn,_⟩
 ·exact ⟨Option.none,0,by rw [e1,e2],by omega,fun j hj=>by omega,fun g off e=>by cases e⟩
 ·refine ⟨some ⟨g,0,Option.none⟩,cap,e1,hn,fun j hj=>⟨g,0,rfl,?_⟩,fun g' off e=>?_⟩
  ·have:=h.own.cells (g:=g) (by rw [e1];rfl) j (bv (xs.getD j 0)) (by rw [List.getElem?_map,List.getElem?_eq_getElem hj,List.getD_eq_getElem?_getD,List.getElem?_eq_getElem hj];rfl)
   have e:(⟨g,0,Option.none⟩:Addr).add j=⟨g,0+j,Option.none⟩:=by rw [Nat.zero_add];simp [Addr.add];exact fun h=>h.symm
   rw [e] at this
   exact this
  ·cases e;exact hb
def Up (u:List Nat):Prop:=∀i,i+1<u.length→u.getD i 0<u.getD (i+1) 0
open Classical in
noncomputable def unfrontOut (u:List Nat) (ps:List Int):List Nat × Nat:=if Up u then unf u ps [] else ([],2)
end R11
namespace R11
open Go.RowKit Runs
attribute [local go_sem ↓] wp_at_zero wp_at_succ
theorem w0i {ops:Array Oper} {rest:List Oper} {o:Oper} {a:Act} {Q:Exit→Act→World→Prop} {w0 ws:World} (hgd:o.guard=none) (s x:Operand)
  (ho:o.op=.call { callee:=.builtin .append,args:=#[s,x],argTypes:=#[49,49] }) (va:Value) (xs:List Value) (X:Int) (hs:a.eval s=va) (hx:a.eval x=.slice (some ⟨ws.heap.size,0,none⟩) 1 1)
  (hA:St w0 ws va xs) (hlen:(xs.length+1)*8≤140737488355328)
  (h:∀v' w',St w0 w' v' (xs++[iv X])→(∀k,k<ws.heap.size→va.ownBlock≠some k→w'.heap[k]?=ws.heap[k]?)→ws.heap.size≤w'.heap.size→(∀b,v'.ownBlock=some b→va.ownBlock=some b∨ws.heap.size≤b)→wpList Tryz.prog ops Q rest (a.put o.dst v') w'):wpList Tryz.prog ops Q (o :: rest) a (ws.alloc (.cells #[iv X] 3)):=by
 obtain ⟨i0,hi,hz0,hz1,hz2⟩:=info_parts info3'
 refine wpList_append_own_at (ws.alloc (.cells #[iv X] 3)) hgd s x 49 ho w0.heap.size 3 i0 (.int .i64 0) 1 8 Tryz.underlying49 hi hz0 hz1 hz2 rfl (by decide) va xs.length xs hs (hA.own.alloc _) ⟨ws.heap.size,0,none⟩ 1 1 [iv X] hx rfl (cell_one_new _ _ _) (by intro u hu;rw [List.mem_singleton] at hu;subst hu;rfl) (by unfold maxLen;omega) hlen (by have:=hA.bel.size;simp;omega) ?_
 intro v' w' h2 h3 _ h5
 refine h v' w' ⟨by rw [List.length_append];exact h2,(hA.bel.alloc hA.bel.size _).grown h3 (by have:=hA.bel.size;simp;omega) (fun k e=>(hA.own.lt k e).1)⟩ (fun k hk hne=>?_) (by have:=h3.size;simp at this;omega) (fun b e=>?_)
 ·rw [h3.block k (by simp;omega) (fun e=>hne e.symm),Below.heap_alloc _ _ _ hk]
 ·rcases h5 with h5|h5
  ·exact .inl (by rw [←h5,e])
  ·rw [e] at h5;have:=Option.some.inj h5;simp at this;exact .inr (by omega)
end R11
namespace R11
open Go.RowKit Runs
attribute [local go_sem ↓] wp_at_zero wp_at_succ
theorem z7x:∀ (l:List Nat) (c:Nat),(∀z∈l,z<256)→c<256→c∈l→Lib.indexByte (Lib.bytesOf (l.map fun z:Nat=>(z:Int))) (c:Int).toNat.toUInt8=((place c l:Nat):Int)
 | [],c,_,_,h=>by simp at h
 | x :: l,c,hl,hc,h=>by
  have hx:=hl x (List.mem_cons_self ..)
  have e:Lib.bytesOf ((x :: l).map fun z:Nat=>(z:Int))=UInt8.ofNat x :: Lib.bytesOf (l.map fun z:Nat=>(z:Int)):=by simp [Lib.bytesOf]
  rw [e,Lib.indexByte,place]
  by_cases hxc:x=c
  ·subst hxc
   rw [if_pos (by simp [Nat.toUInt8]),if_pos rfl]
   rfl
  ·have hne:¬ (UInt8.ofNat x == (c:Int).toNat.toUInt8)=true:=by
    intro q
    have q:=congrArg UInt8.toNat (eq_of_beq q)
    simp [Nat.toUInt8,Nat.mod_eq_of_lt hx,Nat.mod_eq_of_lt hc] at q
    exact hxc q
   have ih:=z7x l c (fun z hz=>hl z (List.mem_cons_of_mem _ hz)) hc (by
    rcases List.mem_cons.1 h with h|h
    ·exact absurd h.symm hxc
    ·exact h)
   rw [if_neg hne,if_neg hxc,ih,if_neg (by rw [beq_iff_eq];omega)]
   omega
theorem x5i (l:List Nat) (g o cap c:Nat) (w:World) (hc:BytesIn w (some ⟨g,o,none⟩) l) (hl:∀z∈l,z<256) (hcm:c∈l) :
  Calls Tryz.prog 71 #[.slice (some ⟨g,o,none⟩) l.length cap,.int .u8 (c:Int)] w fun e w'=>e=.returned (.int .i64 ((place c l:Nat):Int))∧w'=w:=by
 have hi:=Lib.run_indexByteSlice (P:=Tryz.prog) w g o l.length cap (l.map fun z:Nat=>(z:Int)) (by simp) (fun i hi=>by
  obtain ⟨g',o',e,h⟩:=hc i hi
  cases e
  rw [h,List.getD_eq_getElem?_getD,List.getD_eq_getElem?_getD,List.getElem?_map,List.getElem?_eq_getElem hi]
  rfl) (c:Int)
 rw [z7x l c hl (hl c hcm) hcm] at hi
 go_enter Tryz.func71,Tryz.ntmps71
 go_wp2_with fail
 rw [run_callFunc_extern Tryz.func98 (by kernel_rfl) (by kernel_rfl) (by kernel_rfl) (e:=Extern.BytealgIndexByte.indexByte) (by kernel_rfl),hi]
 simp only [Result.andThen]
 rw [Oper.upon_value]
 go_wp2_with fail
 go_ret
 exact ⟨rfl,rfl⟩
def z3g (w:World) (g:Nat) (L:List Nat):Prop:=w.heap[g]?=some (.cells (L.map bv).toArray 110 (0,0))
theorem z3g.cell {w:World} {g:Nat} {L:List Nat} (h:z3g w g L) (i:Nat) (hi:i<L.length):w.cell? ⟨g,i,none⟩=some (.int .u8 ((L.getD i 0:Nat):Int)):=by
 simp only [World.cell?,show w.heap[g]?=_ from h]
 simp [List.getElem?_map,List.getElem?_eq_getElem hi,bv,List.getD_eq_getElem?_getD]
theorem z3g.upto {w:World} {g:Nat} {L:List Nat} (h:z3g w g L) (n:Nat) (hn:n≤L.length):BytesIn w (some ⟨g,0,none⟩) (L.take n):=fun j hj=>by
 rw [List.length_take] at hj
 refine ⟨g,0,rfl,?_⟩
 rw [Nat.zero_add,h.cell j (by omega)]
 rw [List.getD_eq_getElem?_getD (l:=L.take n),List.getElem?_take,if_pos (by omega),List.getD_eq_getElem?_getD]
theorem y9g {w w0:World} {g:Nat} (cs:Array Value) (h:Chg g (g+1) w0 w):Chg g (g+1) w0 (w.setRow g cs) :=
 ⟨h.os,h.tape,h.output,by simpa [World.setRow] using h.size,fun k hk hd=>by rw [setRow_other w g k cs (by omega)];exact h.keep k hk hd⟩
theorem step_copy_chg {P:Program} {ops:Array Oper} {o:Oper} {a:Act} {w w0:World} {K:Act→World→Prop} {Q:Exit→Act→World→Prop} {E:Prop} (hgd:o.guard=none) (d s:Operand) (dT sT:TypeId)
  (ho:o.op=.call { callee:=.builtin .copy,args:=#[d,s],argTypes:=#[dT,sT] }) (elem:TypeId) (hu:P.underlying dT=some (.slice elem)) (hsz:(P.info? elem).map (·.size)=some 1)
  (dp sp:Option Addr) (dLen dCap sLen sCap:Nat) (hd:a.eval d=.slice dp dLen dCap) (hs:a.eval s=.slice sp sLen sCap)
  (g off:Nat) (cur:List Value) (t:TypeId) (hg:w.heap[g]?=some (.cells cur.toArray t (0,0))) (cs:List Value) (hn:cs.length=Nat.min sLen dLen)
  (hpos:0<cs.length→dp=some ⟨g,off,none⟩∧∃ad,sp=some ad∧∀j v,cs[j]?=some v→w.cell? (ad.add j)=some v)
  (hfit:off+cs.length≤cur.length) (h1:∀v∈cs,v.oneCell'=true) (hc:Chg g (g+1) w0 w)
  (h:∀w',Hid (w'.heap[g]?=some (.cells (splice cur off cs).toArray t (0,0)))→Hid (Chg g (g+1) w0 w')→K (a.put o.dst (goInt cs.length)) w') :
  if Region.wanted o (yielded ops a.tmps)=true then Oper.wp P o a w K Q else E:=by
 have hw:Region.wanted o (yielded ops a.tmps)=true:=by simp [Region.wanted,hgd]
 rw [if_pos hw]
 by_cases h0:cs.length=0
 ·obtain rfl:cs=[]:=List.eq_nil_of_length_eq_zero h0
  have hrun:=run_copy_none (P:=P) w dT sT o.type elem dp sp dLen dCap sLen sCap hu hsz (by simpa using hn.symm)
  unfold Oper.wp
  simp [execOp,ho,resolve,invoke,builtin,hd,hs,hrun,Result.andThen]
  exact h w (show _=_ by simpa [splice] using hg) hc
 ·obtain ⟨rfl,ad,rfl,hsrc⟩:=hpos (by omega)
  have hrun:=run_copy_row (P:=P) w dT sT o.type elem g off dLen dCap ad sLen sCap cur.toArray t cs hu hsz hg hn hsrc (by simpa using hfit) h1
  unfold Oper.wp
  simp [execOp,ho,resolve,invoke,builtin,hd,hs,hrun,Result.andThen]
  exact h _ (show _=_ by simpa [splice] using setRow_heap w g _ _ t _ hg) (y9g _ hc)
theorem y1g {w:World} {g off:Nat} {ys:List Nat} (h:BytesIn w (some ⟨g,off,none⟩) ys):∀ (j:Nat) v,(ys.map bv)[j]?=some v→w.cell? ((⟨g,off,none⟩:Addr).add j)=some v :=
 z9q fun j hj=>by
  obtain ⟨g',o',e,c⟩:=h j hj
  cases e
  have e:(⟨g,off,none⟩:Addr).add j=⟨g,off+j,none⟩:=by simp [Addr.add]
  rw [e];exact c
theorem y8w {L:List Nat} {k:Nat} (hk:k<L.length):(splice (L.map bv) 1 ((L.take k).map bv)).set 0 (bv (L.getD k 0))=(z0k L k).map bv:=by
 unfold splice z0k
 cases L with
 | nil=>simp at hk
 | cons x l =>
  have hk':k≤l.length:=by simp only [List.length_cons] at hk;omega
  have e1:((x :: l).take k).length=k:=by rw [List.length_take];simp only [List.length_cons];omega
  rw [List.length_map,e1,List.map_cons,List.take_succ_cons,List.take_zero,List.cons_append,List.set_cons_zero,List.map_cons,List.nil_append,List.map_append,List.map_drop]
  congr 3
  rw [Nat.add_comm]
theorem x0m (L:List Nat) (g k:Nat) (w:World) (hL:z3g w g L) (hl:L.length=256) (hk:k<256) :
  Calls Tryz.prog 72 #[.pointer (some ⟨g,0,none⟩),.int .i64 (k:Int)] w fun e w'=>e=.returned (.int .u8 ((L.getD k 0:Nat):Int))∧z3g w' g (z0k L k)∧Chg g (g+1) w w':=by
 have c1:=hL.cell k (by omega)
 have HL:=qz hL
 have HST:=qz (y8w (L:=L) (k:=k) (by omega))
 obtain ⟨c,hc⟩:∃c,c=L.getD k 0:=⟨_,rfl⟩
 rw [←hc] at c1 HST ⊢
 obtain ⟨LV,hLV⟩:∃LV,LV=L.map bv:=⟨_,rfl⟩
 obtain ⟨CV,hCV⟩:∃CV,CV=(L.take k).map bv:=⟨_,rfl⟩
 rw [←hLV,←hCV] at HST
 have HG:Hid (∀q,(w.drewN q).heap[g]?=some (.cells LV.toArray 110 (0,0))):=qz fun q=>by rw [hLV];exact hL
 have HS:Hid (∀q (j:Nat) v,CV[j]?=some v→(w.drewN q).cell? ((⟨g,0,none⟩:Addr).add j)=some v):=qz fun q=>by rw [hCV];exact y1g (hL.upto k (by omega))
 have HLL:Hid (LV.length=256):=qz (by rw [hLV,List.length_map];exact hl)
 have HCL:Hid (CV.length=k):=qz (by rw [hCV,List.length_map,List.length_take];omega)
 have H1:Hid (∀v∈CV,v.oneCell'=true):=qz (by rw [hCV];exact z3q _)
 clear hc hLV hCV hL hl
 have t1:(k:Int)≤256:=by omega
 have t2:(k:Int)+1≤256:=by omega
 have t3:(1:Int)≤(k:Int)+1:=by omega
 have t4:(0:Int)≤(k:Int)+1:=by omega
 have fw:IntKind.i64.wrap ((k:Int)+1)=(k:Int)+1:=by rw [IntKind.wrap_i64];omega
 go_enter Tryz.func72,Tryz.ntmps72
 go_wp2_with fail
 go_region_law (refine step_copy_chg (w0:=w) rfl (.tmp 15) (.tmp 19) 22 22 rfl 5 Tryz.underlying22 (by kernel_rfl) (some ⟨g,1,none⟩) (some ⟨g,0,none⟩) k 255 k 256 (by simp [go_sem]) (by simp [go_sem]) g 1 LV 110 (uh HG 1) CV (by rw [uh HCL];simp) (fun _=>⟨rfl,_,rfl,uh HS 1⟩) (by rw [uh HCL,uh HLL];omega) (uh H1) (drewN_chg (Chg.refl _ _ _) 1) ?_;intro w4 hg4 hc4)
 obtain ⟨S,hS⟩:∃S,S=splice LV 1 CV:=⟨_,rfl⟩
 have hlen:0<S.length:=by rw [hS,length_splice _ _ _ (by rw [uh HCL,uh HLL];omega),uh HLL];omega
 rw [←hS] at hg4 HST
 clear hS HCL
 obtain ⟨cl,hcl⟩:∃cl,cl=CV.length:=⟨_,rfl⟩
 rw [←hcl]
 clear hcl
 have d1:w4.cell? ⟨g,0,none⟩=some S[0]:=by
  simp only [World.cell?,show w4.heap[g]?=_ from hg4]
  simp [hlen]
 have d2:w4.frozen? ⟨g,0,none⟩=false:=by simp [World.frozen?,show w4.heap[g]?=_ from hg4]
 generalize S[0]=x0 at d1
 go_wp2_with fail
 go_ret
 refine ⟨rfl,?_,(uh hc4).set 0 _ (Nat.le_refl _) (by omega)⟩
 unfold z3g
 rw [heap_setCell_same w4 g 0 _ 110 _ (uh hg4),←uh HST]
 simp [bv]
end R11
section
open Go.RowKit B4 B4.Mth Infl R11.Runs
attribute [local go_sem ↓] wp_at_zero wp_at_succ
def nv (z:Nat):Value:=.int .i64 (z:Int)
theorem x1h {L:List Nat} {k:Nat} (hk:k<L.length):(splice (L.map nv) 1 ((L.take k).map nv)).set 0 (nv (L.getD k 0))=(z0k L k).map nv:=by
 unfold splice z0k
 cases L with
 | nil=>simp at hk
 | cons x l =>
  have hk':k≤l.length:=by simp only [List.length_cons] at hk;omega
  have e1:((x :: l).take k).length=k:=by rw [List.length_take];simp only [List.length_cons];omega
  rw [List.length_map,e1,List.map_cons,List.take_succ_cons,List.take_zero,List.cons_append,List.set_cons_zero,List.map_cons,List.nil_append,List.map_append,List.map_drop]
  congr 3
  rw [Nat.add_comm]
theorem z1q {L:List Nat} {k:Nat} (hk:k<L.length):(z0k L k).length=L.length:=by
 unfold z0k
 simp only [List.length_cons,List.length_append,List.length_take,List.length_drop]
 omega
def z2w (w:World) (g:Nat) (L:List Nat):Prop:=w.heap[g]?=some (.cells (L.map nv).toArray 155 (0,0))
theorem z2w.cell {w:World} {g:Nat} {L:List Nat} (h:z2w w g L) (i:Nat) (hi:i<L.length):w.cell? ⟨g,i,none⟩=some (nv (L.getD i 0)):=by
 simp only [World.cell?,show w.heap[g]?=_ from h]
 simp [List.getD_eq_getElem?_getD,hi]
theorem z2w.of {w w':World} {g:Nat} {L:List Nat} (h:z2w w g L) (hb:w'.heap[g]?=w.heap[g]?):z2w w' g L:=by unfold z2w;rw [hb];exact h
theorem z2w.lt {w:World} {g:Nat} {L:List Nat} (h:z2w w g L):g<w.heap.size:=z0d h
theorem x6o {t n p q:Nat} {l out x:List Nat} {I:In} (h:Bz.sels t (n+1) l out I p=.ok x q):∃k o,Bz.una t t I p=.ok k o∧Bz.sels t n (z0k l k) (out++[l.getD k 0]) I o=.ok x q:=by
 rw [Bz.sels] at h
 exact z0r h
theorem y4z (w:World) (n:Nat) (hn:n≤65536):(Instr.makeSlice 49 (.int .u64 (n:Int)) (.int .u64 (n:Int))).run Tryz.prog w=.ok (.slice (some ⟨w.heap.size,0,none⟩) n n) (w.alloc (.cells (z0b .i64 n (fun _=>0)) 3)):=by
 obtain ⟨i0,hi,hz0,hz1,hz2⟩:=info_parts info3'
 have:=run_make (P:=Tryz.prog) w 49 3 i0 (.int .i64 0) Tryz.underlying49 hi hz0 .u64 .u64 (n:Int) (n:Int) (by omega) (by omega) (by rw [hz2];omega) (by omega)
 rw [hz1] at this
 rw [this]
 congr 3
 apply Array.ext (by simp [madeCells,z0b])
 intro k k1 k2
 simp [z0b,madeCells,Value.cells,Nat.mod_one]
theorem z6u (rp g p t q:Nat) (l zs:List Nat) (w:World) (h:RB w rp g zs p) (hrp:rp<w.heap.size) (hgw:g<w.heap.size) (hz:zs.length≤10000000000000) (ht:t≤6) (hu:Bz.selR t (Bz.bytesH zs) p=.ok l q) :
  Calls Tryz.prog 88 #[.pointer (some ⟨rp,0,none⟩),.int .i64 (t:Int)] w fun e w'=>∃H,RdTo rp g zs w q (.slice (some ⟨H,0,none⟩) l.length l.length) e w'∧w.heap.size≤H∧Nums w' H l∧l.length≤32768∧∀z∈l,z<6:=by
 obtain ⟨n,o,hg1,hl⟩:=z0r hu
 have hn0:n≠0:=fun e=>by rw [if_pos e] at hl;cases hl
 rw [if_neg hn0] at hl
 have HC:=qz (z3t h hz (by decide:(15:Nat)≤64) hg1)
 have HL:=qz hl
 have HPL:Hid (∀ (p1 x o:Nat) (w1:World),RB w1 rp g zs p1→Bz.una t t (Bz.bytesH zs) p1=.ok x o→_):=qz fun p1 x o w1 (h1:RB w1 rp g zs p1) (h3:Bz.una t t (Bz.bytesH zs) p1=.ok x o)=>y3y rp g p1 t x o zs w1 h1 hz ht h3
 have HRP:=qz hrp
 have HGW:=qz hgw
 clear h hu hg1 hl hrp hgw
 go_enter Tryz.func88,Tryz.ntmps88
 go_wp2_with fail
 refine (uh HC).mono ?_
 rintro e w1 ⟨rfl,hr,ho,hv⟩
 have hn1:n<32768:=hv
 have HR1:=qz hr
 have HO1:=qz ho
 clear hr ho hv
 have f0:((n:Int) == 0)=false:=by simp;omega
 obtain ⟨o1,ho1⟩:∃o1:Obj,o1=.cells #[.int .i64 0,.int .i64 1,.int .i64 2,.int .i64 3,.int .i64 4,.int .i64 5] 155:=⟨_,rfl⟩
 have fm:=y4z (w1.alloc o1) n (by omega)
 obtain ⟨A,hA⟩:∃A,A=w1.heap.size:=⟨_,rfl⟩
 have HAW:Hid (w.heap.size≤A):=qz (by rw [hA];exact (uh HO1).size)
 have hs1:(w1.alloc o1).heap.size=A+1:=by rw [hA];simp
 have hrA:rp<A:=by have:=uh HAW;have:=uh HRP;omega
 have hgA:g<A:=by have:=uh HAW;have:=uh HGW;omega
 have HR2:Hid (RB ((w1.alloc o1).alloc (.cells (z0b .i64 n (fun _=>0)) 3)) rp g zs o):=qz (((uh HR1).alloc (by omega) (by omega) _).alloc (by rw [hs1];omega) (by rw [hs1];omega) _)
 have HO2:Hid (Only rp w ((w1.alloc o1).alloc (.cells (z0b .i64 n (fun _=>0)) 3))):=qz ((uh HO1).trans ((Only.alloc _ _ _).trans (Only.alloc _ _ _)))
 have HA2:Hid (z0a ((w1.alloc o1).alloc (.cells (z0b .i64 n (fun _=>0)) 3)) .i64 3 (A+1) n (fun _=>0)):=qz (by rw [←hs1];exact heap_alloc_new _ _)
 have HL2:Hid (z2w ((w1.alloc o1).alloc (.cells (z0b .i64 n (fun _=>0)) 3)) A [0,1,2,3,4,5]):=qz (by
  unfold z2w
  rw [Below.heap_alloc _ _ _ (by rw [hs1];omega),hA,ho1]
  exact heap_alloc_new _ _)
 obtain ⟨w2,hw2⟩:∃w2,w2=(w1.alloc o1).alloc (.cells (z0b .i64 n (fun _=>0)) 3):=⟨_,rfl⟩
 rw [←hw2] at HR2 HO2 HA2 HL2
 rw [←hw2,hs1] at fm
 rw [ho1] at fm
 clear ho1 hs1 hw2 HR1 HO1 HC
 have HA:=qz hA
 clear hA
 go_wp2_with fail
 rw [←uh HA]
 clear HA fm
 go_loopg [29] n (fun gk d ws=>∃ (i p1:Nat) (L xs:List Nat),gk=n-i∧i≤n∧d=.int .i64 (i:Int)∧Hid (xs.length=i)∧Hid (L.length=6)∧Hid (∀z∈L,z<6)∧Hid (∀z∈xs,z<6)∧Hid (z2w ws A L)∧Hid (z0a ws .i64 3 (A+1) n (fun j=>xs.getD j 0))∧Hid (RB ws rp g zs p1)∧Hid (Only rp w ws)∧Hid (Bz.sels t (n-i) L xs (Bz.bytesH zs) p1=.ok l q))
 case atStart=>exact ⟨0,o,[0,1,2,3,4,5],[],by omega,by omega,rfl,qz rfl,qz rfl,qz (by simp),qz (by simp),HL2,qz ((uh HA2).congr fun i _=>by simp),HR2,HO2,HL⟩
 case round =>
  clear HA2 HR2 HO2 HL HL2
  obtain ⟨i,p1,L,xs,rfl,hi,rfl,HX,HLL,HLZ,HZ,HLI,HNA,HR,HO,HI⟩:=hrel
  rename World=>ws
  by_cases hlt:i<n
  ·have tl:(i:Int)<(n:Int):=by omega
   have hinv:=uh HI
   obtain ⟨k,hk⟩:∃k,n-i=k+1:=⟨n-i-1,by omega⟩
   rw [hk] at hinv
   obtain ⟨x,o1,hg1,hnext⟩:=x6o hinv
   have HC:=qz (uh HPL p1 x o1 ws (uh HR) hg1)
   have HN:=qz hnext
   have HK:=qz hk
   clear hinv hg1 hnext hk
   go_wp2_with fail
   refine (uh HC).mono ?_
   rintro e w3 ⟨⟨rfl,hr,ho⟩,hxt⟩
   have hx6:x<6:=by omega
   have HR3:=qz hr
   have HO3:=qz ((uh HO).trans ho)
   have HL3:=qz ((uh HLI).of (ho.keep A (uh HLI).lt (by omega)))
   have HA3:=qz (z0a.only (uh HNA) ho (by omega:A+1≠rp))
   have c1:=(uh HL3).cell x (by rw [uh HLL];omega)
   unfold nv at c1
   have HST:=qz (x1h (L:=L) (k:=x) (by rw [uh HLL];omega))
   obtain ⟨c,hc⟩:∃c,c=L.getD x 0:=⟨_,rfl⟩
   rw [←hc] at c1
   have HCC:=qz hc
   have t1:(x:Int)≤6:=by omega
   have t2:(x:Int)+1≤6:=by omega
   have t3:(1:Int)≤(x:Int)+1:=by omega
   have t4:(0:Int)≤(x:Int)+1:=by omega
   have t5:(x:Int)<6:=by omega
   have fw:IntKind.i64.wrap ((x:Int)+1)=(x:Int)+1:=by rw [IntKind.wrap_i64];omega
   obtain ⟨LV,hLV⟩:∃LV,LV=L.map nv:=⟨_,rfl⟩
   obtain ⟨CV,hCV⟩:∃CV,CV=(L.take x).map nv:=⟨_,rfl⟩
   rw [←hc,←hLV,←hCV] at HST
   have HG:Hid (∀q,(w3.drewN q).heap[A]?=some (.cells LV.toArray 155 (0,0))):=qz fun q=>by rw [hLV];exact uh HL3
   have HS:Hid (∀q (j:Nat) v,CV[j]?=some v→(w3.drewN q).cell? ((⟨A,0,none⟩:Addr).add j)=some v):=qz fun q j v hv=>by
    rw [hCV,List.getElem?_map,List.getElem?_take] at hv
    have hll:=uh HLL
    by_cases hj:j<x
    ·rw [if_pos hj,List.getElem?_eq_getElem (by omega)] at hv
     simp only [Option.map_some,Option.some.injEq] at hv
     have e:(⟨A,0,none⟩:Addr).add j=⟨A,j,none⟩:=by by_cases hq:j=0<;>simp [Addr.add,hq]
     rw [e]
     have:=(uh HL3).cell j (by omega)
     rw [List.getD_eq_getElem?_getD,List.getElem?_eq_getElem (by omega)] at this
     rw [←hv];exact this
    ·rw [if_neg hj] at hv;cases hv
   have HLL6:Hid (LV.length=6):=qz (by rw [hLV,List.length_map];exact uh HLL)
   have HCL:Hid (CV.length=x):=qz (by rw [hCV,List.length_map,List.length_take,uh HLL];omega)
   have H1:Hid (∀v∈CV,v.oneCell'=true):=qz (by rw [hCV];intro v hv;obtain ⟨z,_,rfl⟩:=List.mem_map.1 hv;rfl)
   clear hr ho hc hLV hCV
   go_wp2_with fail
   go_region_law (refine R11.step_copy_chg (w0:=w3) rfl (.tmp 46) (.tmp 48) 49 49 rfl 3 Tryz.underlying49 (by kernel_rfl) (some ⟨A,1,none⟩) (some ⟨A,0,none⟩) x 5 x 6 (by simp [go_sem]) (by simp [go_sem]) A 1 LV 155 (uh HG 1) CV (by rw [uh HCL];simp) (fun _=>⟨rfl,_,rfl,uh HS 1⟩) (by rw [uh HCL,uh HLL6];omega) (uh H1) (R11.drewN_chg (R11.Chg.refl _ _ _) 1) ?_;intro w4 hg4 hc4)
   obtain ⟨S,hS⟩:∃S,S=splice LV 1 CV:=⟨_,rfl⟩
   have hlen:0<S.length:=by rw [hS,length_splice _ _ _ (by rw [uh HCL,uh HLL6];omega),uh HLL6];omega
   rw [←hS] at hg4 HST
   clear hS HCL
   obtain ⟨cl,hcl⟩:∃cl,cl=CV.length:=⟨_,rfl⟩
   rw [←hcl]
   clear hcl
   have d1:w4.cell? ⟨A,0,none⟩=some S[0]:=by
    simp only [World.cell?,show w4.heap[A]?=_ from hg4]
    simp [hlen]
   have d2:w4.frozen? ⟨A,0,none⟩=false:=by simp [World.frozen?,show w4.heap[A]?=_ from hg4]
   generalize S[0]=x0 at d1
   have hkA:=(uh hc4).keep (A+1) (uh HA3).lt (by omega)
   have HA4:Hid (z0a w4 .i64 3 (A+1) n (fun j=>xs.getD j 0)):=qz (by unfold z0a;rw [hkA];exact uh HA3)
   have hA5:=z0a.other (uh HA4) ⟨A,0,none⟩ (.int .i64 (c:Int)) (by show A+1≠A;omega)
   have e1:=hA5.cell i hlt
   have e2:=hA5.free i
   have HA5:=qz hA5
   clear hkA hA5
   go_wp2_with fail
   go_roundg (n-(i+1))
   case measure=>omega
   case rel =>
    have hxl:=uh HX
    have hll:=uh HLL
    have hcc:=uh HCC
    have hmem:L.getD x 0∈L:=by rw [List.getD_eq_getElem?_getD,List.getElem?_eq_getElem (by omega)];exact List.getElem_mem _
    have hc6:c<6:=by rw [hcc];exact uh HLZ _ hmem
    have hc:=uh hc4
    have hk4:∀k,k<w3.heap.size→k≠A→(w4.setCell ⟨A,0,none⟩ (.int .i64 (c:Int))).heap[k]?=w3.heap[k]?:=fun k h1 h2=>(heap_setCell_other _ _ _ _ h2).trans (hc.keep k h1 (by omega))
    have hr3:=(uh HO3).size
    have haw:=uh HAW
    have hl3:=(uh HL3).lt
    have hS4:z2w (w4.setCell ⟨A,0,none⟩ (.int .i64 (c:Int))) A (z0k L x):=by
     unfold z2w
     rw [heap_setCell_same w4 A 0 _ 155 _ (uh hg4),←uh HST]
     simp [nv]
    refine ⟨i+1,o1,z0k L x,xs++[c],rfl,by omega,by go_num,qz (by simp [hxl]),qz (by rw [z1q (by omega)];exact hll),qz fun z hz=>?_,qz fun z hz=>?_,qz (hS4.of (heap_setCell_other _ _ _ _ (by show A≠A+1;omega))),qz (((uh HA5).set i c).congr fun j hj=>?_),qz (RB.setNew ((uh HR3).keep (hk4 _ (by have:=(uh HR3).lt;omega) (by omega)) (hk4 _ (z0d (uh HR3).row) (by omega))) (by omega) (by omega) _ _),qz ?_,qz (by rw [show n-(i+1)=k by have:=uh HK;omega,hcc];exact uh HN)⟩
    ·unfold z0k at hz
     rcases List.mem_cons.1 hz with rfl|hz
     ·exact uh HLZ _ hmem
     ·rcases List.mem_append.1 hz with hz|hz
      ·exact uh HLZ _ (List.mem_of_mem_take hz)
      ·exact uh HLZ _ (List.mem_of_mem_drop hz)
    ·rcases List.mem_append.1 hz with hz|hz
     ·exact uh HZ z hz
     ·simp at hz;omega
    ·by_cases hj2:j<xs.length+1
     ·rw [←hxl];exact y7p hj2
     ·unfold upd
      rw [if_neg (by omega)]
      show xs.getD j 0=_
      rw [List.getD_eq_getElem?_getD,List.getD_eq_getElem?_getD,List.getElem?_eq_none (by omega),List.getElem?_eq_none (by simp;omega)]
    ·have hO5:Only rp w w4:=⟨hc.os.trans (uh HO3).os,hc.tape.trans (uh HO3).tape,hc.output.trans (uh HO3).output,Nat.le_trans hr3 hc.size,fun k h1 h2=>(hc.keep k (by omega) (by omega)).trans ((uh HO3).keep k h1 h2)⟩
     exact Only.setNew (Only.setNew hO5 haw _ _) (by omega) _ _
  ·obtain rfl:n=i:=by omega
   have tl:¬ (n:Int)<(n:Int):=by omega
   have hfin:=uh HI
   rw [Nat.sub_self,Bz.sels] at hfin
   injection hfin with e1 e2
   subst e1 e2
   go_wp2_with fail
   go_ret2
   have hxl:=uh HX
   exact ⟨A+1,⟨by rw [hxl];rfl,uh HR,uh HO⟩,by have:=uh HAW;omega,by unfold Nums;rw [hxl];exact uh HNA,by omega,uh HZ⟩
end
section
open Go.RowKit B4 B4.Mth Infl R11.Runs
attribute [local go_sem ↓] wp_at_zero wp_at_succ
def iv (z:Int):Value:=.int .i64 z
def natI (l:List Nat):List Int:=l.map fun x:Nat=>(x:Int)
theorem inf5:(Tryz.prog.info? 5).map (fun i=>(i.zero,i.size,i.bytes))=some (some (.int .u8 0),1,1):=by kernel_rfl
theorem inf3:(Tryz.prog.info? 3).map (fun i=>(i.zero,i.size,i.bytes))=some (some (.int .i64 0),1,8):=by kernel_rfl
structure Gr (w w':World) (va v':Value):Prop where
 os:w'.os=w.os
 tape:w'.tape=w.tape
 output:w'.output=w.output
 size:w.heap.size≤w'.heap.size
 block:∀k,k<w.heap.size→va.ownBlock≠some k→w'.heap[k]?=w.heap[k]?
 lies:∀b,v'.ownBlock=some b→va.ownBlock=some b∨w.heap.size≤b
def RowB (B:Nat) (w:World) (v:Value) (xs:List Nat):Prop:=w.ownsRow B 5 1 v xs.length (xs.map bv)
def RowI (B:Nat) (w:World) (v:Value) (xs:List Nat):Prop:=w.ownsRow B 3 1 v xs.length ((natI xs).map iv)
theorem y7t {ops:Array Oper} {rest:List Oper} {o:Oper} {a:Act} {Q:Exit→Act→World→Prop} {B:Nat} {ws:World} (hgd:o.guard=none) (s x:Operand)
  (ho:o.op=.call { callee:=.builtin .append,args:=#[s,x],argTypes:=#[22,22] }) (va:Value) (xs:List Nat) (X:Nat) (hs:a.eval s=va) (hx:a.eval x=.slice (some ⟨ws.heap.size,0,none⟩) 1 1)
  (hA:RowB B ws va xs) (hB:B≤ws.heap.size) (hlen:(xs.length+1)*8≤140737488355328)
  (h:∀v' w',RowB B w' v' (xs++[X])→Gr ws w' va v'→wpList Tryz.prog ops Q rest (a.put o.dst v') w'):wpList Tryz.prog ops Q (o :: rest) a (ws.alloc (.cells #[bv X] 5)):=by
 obtain ⟨i0,hi,hz0,hz1,hz2⟩:=info_parts inf5
 refine wpList_append_own_at (ws.alloc (.cells #[bv X] 5)) hgd s x 22 ho B 5 i0 (.int .u8 0) 1 1 Tryz.underlying22 hi hz0 hz1 hz2 rfl (by decide) va xs.length (xs.map bv) hs (World.ownsRow.alloc hA _) ⟨ws.heap.size,0,none⟩ 1 1 [bv X] hx rfl ?_ (by intro u hu;rw [List.mem_singleton] at hu;subst hu;rfl) (by unfold maxLen;omega) (by omega) (by simp;omega) ?_
 ·intro j u hj
  cases j with
  | zero =>
   have e:(⟨ws.heap.size,0,none⟩:Addr).add 0=⟨ws.heap.size,0,none⟩:=by simp [Addr.add]
   rw [e]
   simp only [World.cell?,heap_alloc_new]
   simpa using hj
  | succ j=>simp at hj
 ·intro v' w' h2 h3 _ h5
  refine h v' w' (by unfold RowB;rw [List.length_append,List.map_append];exact h2) ⟨h3.os,h3.tape,h3.output,by have:=h3.size;simp at this;omega,fun k hk hne=>?_,fun b e=>?_⟩
  ·rw [h3.block k (by simp;omega) (fun e=>hne e.symm),Below.heap_alloc _ _ _ hk]
  ·rcases h5 with h5|h5
   ·exact .inl (by rw [←h5,e])
   ·rw [e] at h5;have:=Option.some.inj h5;simp at this;exact .inr (by omega)
theorem y7u {ops:Array Oper} {rest:List Oper} {o:Oper} {a:Act} {Q:Exit→Act→World→Prop} {B:Nat} {ws:World} (hgd:o.guard=none) (s x:Operand)
  (ho:o.op=.call { callee:=.builtin .append,args:=#[s,x],argTypes:=#[49,49] }) (va:Value) (xs:List Nat) (X:Nat) (hs:a.eval s=va) (hx:a.eval x=.slice (some ⟨ws.heap.size,0,none⟩) 1 1)
  (hA:RowI B ws va xs) (hB:B≤ws.heap.size) (hlen:(xs.length+1)*8≤140737488355328)
  (h:∀v' w',RowI B w' v' (xs++[X])→Gr ws w' va v'→wpList Tryz.prog ops Q rest (a.put o.dst v') w'):wpList Tryz.prog ops Q (o :: rest) a (ws.alloc (.cells #[iv (X:Int)] 3)):=by
 obtain ⟨i0,hi,hz0,hz1,hz2⟩:=info_parts inf3
 refine wpList_append_own_at (ws.alloc (.cells #[iv (X:Int)] 3)) hgd s x 49 ho B 3 i0 (.int .i64 0) 1 8 Tryz.underlying49 hi hz0 hz1 hz2 rfl (by decide) va xs.length ((natI xs).map iv) hs (World.ownsRow.alloc hA _) ⟨ws.heap.size,0,none⟩ 1 1 [iv (X:Int)] hx rfl ?_ (by intro u hu;rw [List.mem_singleton] at hu;subst hu;rfl) (by unfold maxLen;omega) (by omega) (by simp;omega) ?_
 ·intro j u hj
  cases j with
  | zero =>
   have e:(⟨ws.heap.size,0,none⟩:Addr).add 0=⟨ws.heap.size,0,none⟩:=by simp [Addr.add]
   rw [e]
   simp only [World.cell?,heap_alloc_new]
   simpa using hj
  | succ j=>simp at hj
 ·intro v' w' h2 h3 _ h5
  refine h v' w' (by unfold RowI natI;unfold natI at h2;rw [List.length_append,List.map_append,List.map_append];exact h2) ⟨h3.os,h3.tape,h3.output,by have:=h3.size;simp at this;omega,fun k hk hne=>?_,fun b e=>?_⟩
  ·rw [h3.block k (by simp;omega) (fun e=>hne e.symm),Below.heap_alloc _ _ _ hk]
  ·rcases h5 with h5|h5
   ·exact .inl (by rw [←h5,e])
   ·rw [e] at h5;have:=Option.some.inj h5;simp at this;exact .inr (by omega)
section
variable {w w':World} {va v':Value} {B rp g p:Nat} {xs zs:List Nat}
theorem RB.gr (h:RB w rp g zs p) (hk:Gr w w' va v') (hlo:∀b,va.ownBlock=some b→B≤b) (h1:rp<B) (h2:g<B):RB w' rp g zs p :=
 h.keep (hk.block _ h.lt (fun e=>by have:=hlo _ e;omega)) (hk.block _ (z0d h.row) (fun e=>by have:=hlo _ e;omega))
theorem Only.gr {a:World} (h:Only rp a w) (hk:Gr w w' va v') (hlo:∀b,va.ownBlock=some b→B≤b) (hB:a.heap.size≤B):Only rp a w' :=
 ⟨hk.os.trans h.os,hk.tape.trans h.tape,hk.output.trans h.output,Nat.le_trans h.size hk.size,fun k h1 h2=>(hk.block k (by have:=h.size;omega) (fun e=>by have:=hlo _ e;omega)).trans (h.keep k h1 h2)⟩
theorem RowB.only (h:RowB B w va xs) (hk:Only rp w w') (hB:rp<B):RowB B w' va xs:=R11.own_keep h fun g e=>hk.keep g (World.ownsRow.lt h g e).2 (by have:=(World.ownsRow.lt h g e).1;omega)
theorem RowI.only (h:RowI B w va xs) (hk:Only rp w w') (hB:rp<B):RowI B w' va xs:=R11.own_keep h fun g e=>hk.keep g (World.ownsRow.lt h g e).2 (by have:=(World.ownsRow.lt h g e).1;omega)
theorem RowB.lo (h:RowB B w va xs):∀g,va.ownBlock=some g→B≤g:=fun g e=>(World.ownsRow.lt h g e).1
theorem RowI.lo (h:RowI B w va xs):∀g,va.ownBlock=some g→B≤g:=fun g e=>(World.ownsRow.lt h g e).1
theorem RowB.len (h:RowB B w va xs):∃a c,va=.slice a xs.length c:=by
 rcases h.2 with ⟨e1,e2⟩|⟨g,cap,cur,e1,_⟩
 ·exact ⟨none,0,by rw [e1,e2]⟩
 ·exact ⟨_,_,e1⟩
theorem RowB.nil (B:Nat) (w:World):RowB B w (.slice none 0 0) []:=World.ownsRow_nil _ _ _ _
theorem RowI.nil (B:Nat) (w:World):RowI B w (.slice none 0 0) []:=World.ownsRow_nil _ _ _ _
end
end
section
open Go.RowKit B4 B4.Mth Infl R11.Runs
attribute [local go_sem ↓] wp_at_zero wp_at_succ
def grp (v n:Nat):List Nat:=(List.range n).filter fun k=>v.testBit (15-k)
theorem x5e (v n:Nat):grp v (n+1)=if v.testBit (15-n)=true then grp v n++[n] else grp v n:=by
 unfold grp
 rw [List.range_succ,List.filter_append,List.filter_cons,List.filter_nil]
 split<;>simp
theorem y4x (v n:Nat):(grp v n).length≤n:=by
 have:=List.length_filter_le (fun k=>v.testBit (15-k)) (List.range n)
 simpa [grp] using this
theorem and_one (a:Nat) (h:a<2^64):bits .and .u64 (a:Int) 1=((a%2:Nat):Int):=by
 have h1:=u64_and_nat a 1 h (by decide)
 rw [Nat.and_one_is_mod] at h1
 exact h1
theorem z6n (rp g p v q:Nat) (zs:List Nat) (w:World) (h:RB w rp g zs p) (hrp:rp<w.heap.size) (hgw:g<w.heap.size) (hz:zs.length≤10000000000000) (hg:Bz.getH 16 (Bz.bytesH zs) p=.ok v q) :
  Calls Tryz.prog 86 #[.pointer (some ⟨rp,0,none⟩)] w fun e w'=>∃sv,RdTo rp g zs w q sv e w'∧RowB w.heap.size w' sv (grp v 16):=by
 have HC:=qz (z3t h hz (by decide:(16:Nat)≤64) hg)
 have HRP:=qz hrp
 have HGW:=qz hgw
 clear h hg hrp hgw
 go_enter Tryz.func86,Tryz.ntmps86
 go_wp2_with fail
 refine (uh HC).mono ?_
 rintro e w1 ⟨rfl,hr,ho,hv⟩
 have HR1:=qz hr
 have HO1:=qz ho
 have hv2:v<65536:=hv
 clear hr ho hv HC
 go_wp2_with fail
 go_loopg [4,13] 16 (fun gk o d ws=>∃ (i:Nat),gk=16-i∧i≤16∧d=.int .i64 (i:Int)∧Hid (RowB w.heap.size ws o (grp v i))∧Hid (RB ws rp g zs q)∧Hid (Only rp w ws))
 case atStart=>exact ⟨0,by omega,by omega,rfl,qz (RowB.nil _ _),HR1,HO1⟩
 case round =>
  clear HR1 HO1
  obtain ⟨i,rfl,hi,rfl,HW,HR,HO⟩:=hrel
  rename World=>ws
  by_cases hlt:i<16
  ·have tl:(i:Int)<16:=by omega
   have f1:bits .and .u64 ((v:Int)/2^(15-i)) 1=(((v.testBit (15-i)).toNat:Nat):Int):=by
    have e:(v:Int)/2^(15-i)=((v/2^(15-i):Nat):Int):=by rw [Int.natCast_ediv,Int.natCast_pow];rfl
    rw [e,and_one _ (Nat.lt_of_le_of_lt (Nat.div_le_self _ _) (by omega)),Nat.toNat_testBit]
   have HG:=qz (x5e v i)
   have hwlo:=qz (RowB.lo (uh HW))
   have hws:w.heap.size≤ws.heap.size:=(uh HO).size
   have hgl:=y4x v i
   by_cases hbit:v.testBit (15-i)=true
   ·rw [hbit] at f1
    have f2:(bits .and .u64 ((v:Int)/2^(15-i)) 1 == 1)=true:=by rw [f1];rfl
    have fw:IntKind.u8.wrap (i:Int)=(i:Int):=by rw [IntKind.wrap_u8];omega
    have HG2:Hid (grp v (i+1)=grp v i++[i]):=qz (by rw [uh HG,if_pos hbit])
    clear f1 hbit HG
    go_wp2_with (at_builtin;go_must (refine y7t (ws:=ws) rfl (.tmp 22) (.tmp 25) rfl _ (grp v i) i (by rfl) (by rfl) (uh HW) hws (by omega) ?_;intro v' w' hrow hgr;have HW':=qz hrow;have HGR:=qz hgr;clear hrow hgr))
    go_roundg (16-(i+1))
    case measure=>omega
    case rel=>exact ⟨i+1,rfl,by omega,by go_num,qz (by rw [uh HG2];exact uh HW'),qz ((uh HR).gr (uh HGR) (uh hwlo) (uh HRP) (uh HGW)),qz (Only.gr (uh HO) (uh HGR) (uh hwlo) (Nat.le_refl _))⟩
   ·have hbit':v.testBit (15-i)=false:=by simpa using hbit
    rw [hbit'] at f1
    have f2:(bits .and .u64 ((v:Int)/2^(15-i)) 1 == 1)=false:=by rw [f1];rfl
    have HG2:Hid (grp v (i+1)=grp v i):=qz (by rw [uh HG,if_neg hbit])
    clear f1 hbit hbit' HG
    go_wp2_with fail
    go_roundg (16-(i+1))
    case measure=>omega
    case rel=>exact ⟨i+1,rfl,by omega,by go_num,qz (by rw [uh HG2];exact uh HW),HR,HO⟩
  ·obtain rfl:i=16:=by omega
   go_wp2_with fail
   go_ret2
   exact ⟨_,⟨rfl,uh HR,uh HO⟩,uh HW⟩
end
section
open Go.RowKit B4 B4.Mth Infl R11.Runs
attribute [local go_sem ↓] wp_at_zero wp_at_succ
def z9a:List Nat→List Nat→Rd (List Nat)
 | [],out=>Rd.pure out
 | i :: l,out=>(Bz.getH 16).bind fun own=>z9a l (out++Bz.ownBytes i own)
theorem y9a (k:Nat) (h:k<16):(List.range (k+1)).map (fun j=>16-(k+1)+j)=(15-k) :: (List.range k).map (fun j=>16-k+j):=by
 rw [List.range_succ_eq_map,List.map_cons,List.map_map]
 rw [show 16-(k+1)+0=15-k by omega]
 refine congrArg _ (List.map_congr_left fun j _=>?_)
 show 16-(k+1)+(j+1)=_
 omega
theorem z5x (gr:Nat):∀ (k:Nat) (out:List Nat),k≤16→Bz.useds gr k out=z9a (((List.range k).map (fun j=>16-k+j)).filter fun i=>gr.testBit (15-i)) out
 | 0,out,_=>rfl
 | k+1,out,h=>by
  rw [Bz.useds,y9a k (by omega),List.filter_cons,show 15-(15-k)=k by omega]
  by_cases hb:gr.testBit k=true
  ·rw [if_pos hb,if_pos hb,z9a]
   congr 1
   funext own
   exact z5x gr k _ (by omega)
  ·rw [if_neg hb,if_neg hb]
   exact z5x gr k _ (by omega)
theorem x3u (gr:Nat) (out:List Nat):Bz.useds gr 16 out=z9a (grp gr 16) out:=by
 rw [z5x gr 16 out (by omega)]
 have e:(List.range 16).map (fun j=>16-16+j)=List.range 16:=rfl
 rw [e]
 rfl
theorem x9l (i own:Nat):Bz.ownBytes i own=(grp own 16).map fun k=>16*i+k:=rfl
theorem x7w (v n:Nat):∀z∈grp v n,z<n:=fun z hz=>by
 unfold grp at hz
 have:=(List.mem_filter.1 hz).1
 simpa using this
theorem RowB.cellAt {w:World} {B:Nat} {va:Value} {xs:List Nat} (h:RowB B w va xs):∃a c,va=.slice a xs.length c∧∀j,j<xs.length→∃m,a=some ⟨m,0,none⟩∧B≤m∧m<w.heap.size∧va.ownBlock=some m∧∀w':World,w'.heap[m]?=w.heap[m]?→w'.cell? ⟨m,j,none⟩=some (.int .u8 ((xs.getD j 0:Nat):Int)):=by
 have h':=h
 rcases h.2 with ⟨e1,e2⟩|⟨g,cap,cur,e1,hb,hh,_,_,_,ht⟩
 ·exact ⟨none,0,by rw [e1,e2],fun j hj=>by omega⟩
 ·refine ⟨_,_,e1,fun j hj=>⟨g,rfl,hb,z0d hh,by rw [e1];rfl,fun w' hw=>?_⟩⟩
  have h2:(cur.toList.take (xs.length*1))[j]?=some (bv (xs.getD j 0)):=by rw [ht];simp [List.getD_eq_getElem?_getD,hj]
  rw [List.getElem?_take,if_pos (by omega)] at h2
  simp only [World.cell?,hw,hh]
  simpa [bv] using h2
theorem z6z {w:World} {B B' e size n:Nat} {v:Value} {xs:List Value} (hB:B'≤B) (h:w.ownsRow B e size v n xs):w.ownsRow B' e size v n xs:=by
 obtain ⟨h1,h2⟩:=h
 refine ⟨h1,?_⟩
 rcases h2 with e|⟨g,cap,cur,e,hb,r⟩
 ·exact .inl e
 ·exact .inr ⟨g,cap,cur,e,by omega,r⟩
theorem y5o (rp g p q:Nat) (u zs:List Nat) (w:World) (h:RB w rp g zs p) (hrp:rp<w.heap.size) (hgw:g<w.heap.size) (hz:zs.length≤10000000000000) (hu:Bz.usedR (Bz.bytesH zs) p=.ok u q) :
  Calls Tryz.prog 62 #[.pointer (some ⟨rp,0,none⟩)] w fun e w'=>∃sv,RdTo rp g zs w q sv e w'∧RowB w.heap.size w' sv u∧u≠[]∧u.length≤256:=by
 obtain ⟨gr,o,hg1,h1⟩:=z0r hu
 obtain ⟨u',o2,h2,h3⟩:=z0r h1
 have hne:u'≠[]:=fun e=>by rw [if_pos e] at h3;cases h3
 rw [if_neg hne] at h3
 injection h3 with e1 e2
 subst e1 e2
 rw [x3u] at h2
 have HC:=qz (z6n rp g p gr o zs w h hrp hgw hz hg1)
 have HGG:Hid (∀ (p1 v o:Nat) (w1:World),RB w1 rp g zs p1→rp<w1.heap.size→g<w1.heap.size→Bz.getH 16 (Bz.bytesH zs) p1=.ok v o→_):=qz fun p1 v o w1 (h1:RB w1 rp g zs p1) (h2:rp<w1.heap.size) (h3:g<w1.heap.size) (h4:Bz.getH 16 (Bz.bytesH zs) p1=.ok v o)=>z6n rp g p1 v o zs w1 h1 h2 h3 hz h4
 have HU:=qz h2
 have HNE:=qz hne
 have HRP:=qz hrp
 have HGW:=qz hgw
 clear h hu h1 h2 hg1 hne hrp hgw
 go_enter Tryz.func62,Tryz.ntmps62
 go_wp2_with fail
 refine (uh HC).mono ?_
 rintro e w1 ⟨sv,⟨rfl,hr,ho⟩,hrow⟩
 obtain ⟨a,c,rfl,hcell⟩:=RowB.cellAt hrow
 have hgl:=y4x gr 16
 have hglt:=x7w gr 16
 obtain ⟨gs,hgs⟩:∃gs,gs=grp gr 16:=⟨_,rfl⟩
 rw [←hgs] at hcell hgl hglt HU ⊢
 have HCELL:=qz hcell
 have HGLT:=qz hglt
 obtain ⟨N,hN⟩:∃N,N=gs.length:=⟨_,rfl⟩
 have HN:=qz hN
 rw [←hN] at hgl ⊢
 have HR1:=qz hr
 have HO1:=qz ho
 obtain ⟨B,hB⟩:∃B,B=w1.heap.size:=⟨_,rfl⟩
 have HB:=qz hB
 have hBw:w.heap.size≤B:=by rw [hB];exact ho.size
 clear hr ho hrow hcell hglt hgs hN HC hB
 go_wp2_with fail
 go_loopg [6,23] N (fun gk uv d ws=>∃ (i p1:Nat) (xs:List Nat),gk=N-i∧i≤N∧d=.int .i64 (i:Int)∧xs.length≤16*i∧Hid (RowB B ws uv xs)∧Hid (∀k,k<B→k≠rp→ws.heap[k]?=w1.heap[k]?)∧Hid (RB ws rp g zs p1)∧Hid (Only rp w ws)∧Hid (B≤ws.heap.size)∧Hid (z9a (gs.drop i) xs (Bz.bytesH zs) p1=.ok u' o2))
 case atStart=>exact ⟨0,o,[],by omega,by omega,rfl,by simp,qz (RowB.nil _ _),qz (fun _ _ _=>rfl),HR1,HO1,qz (by rw [uh HB];exact Nat.le_refl _),HU⟩
 case round =>
  clear HR1 HO1 HU
  obtain ⟨i,p1,xs,rfl,hi,rfl,hxl,HW,HK,HR,HO,HBS,HI⟩:=hrel
  rename World=>ws
  by_cases hlt:i<N
  ·have tl:(i:Int)<(N:Int):=by omega
   have hig:i<gs.length:=by rw [←uh HN];exact hlt
   obtain ⟨m,rfl,hm1,hm2,_,hmc⟩:=uh HCELL i hig
   have hrpw:=uh HRP
   have hgww:=uh HGW
   have hmB:m<B:=by rw [uh HB];exact hm2
   have c1:=hmc ws (uh HK m hmB (by omega))
   have hgi:=uh HGLT (gs.getD i 0) (R11.getD_mem hig)
   have hdrop:gs.drop i=gs.getD i 0 :: gs.drop (i+1):=by
    rw [List.drop_eq_getElem_cons hig,List.getD_eq_getElem?_getD,List.getElem?_eq_getElem hig];rfl
   have hinv:=uh HI
   rw [hdrop,z9a] at hinv
   obtain ⟨own,o3,hg3,hnext⟩:=z0r hinv
   obtain ⟨gi,hgi2⟩:∃gi,gi=gs.getD i 0:=⟨_,rfl⟩
   rw [←hgi2] at c1 hgi hnext
   have hbs:=uh HBS
   have HC:=qz (uh HGG p1 own o3 ws (uh HR) (by omega) (by omega) hg3)
   rw [x9l] at hnext
   have HNX:=qz hnext
   clear hinv hnext hg3 hdrop hgi2 hmc hm1 hm2
   go_wp2_with fail
   refine (uh HC).mono ?_
   rintro e w2 ⟨sv,⟨rfl,hr,ho⟩,hrow⟩
   obtain ⟨a2,c2,rfl,hcell⟩:=RowB.cellAt hrow
   have hml:=y4x own 16
   have hmlt:=x7w own 16
   obtain ⟨ms,hms⟩:∃ms,ms=grp own 16:=⟨_,rfl⟩
   rw [←hms] at hcell hml hmlt HNX ⊢
   have HMC:=qz hcell
   have HMLT:=qz hmlt
   obtain ⟨M,hM⟩:∃M,M=ms.length:=⟨_,rfl⟩
   have HM:=qz hM
   rw [←hM] at hml ⊢
   have HR2:=qz hr
   have HO2:=qz ((uh HO).trans ho)
   have HW2:=qz (RowB.only (uh HW) ho (by omega))
   have HK2:Hid (∀k,k<B→k≠rp→w2.heap[k]?=w1.heap[k]?):=qz fun k h1 h2=>(ho.keep k (by omega) h2).trans (uh HK k h1 h2)
   have HBS2:Hid (ws.heap.size≤w2.heap.size):=qz ho.size
   have HOB:Hid (∀b,Value.ownBlock u6=some b→b<ws.heap.size):=qz fun b e=>(World.ownsRow.lt (uh HW) b e).2
   clear hr ho hrow hcell hmlt hms hM HC HW HR HO HK HI
   go_wp2_with fail
   go_loopg [6,37] M (fun gk uv d wk=>∃ (j:Nat),gk=M-j∧j≤M∧d=.int .i64 (j:Int)∧Hid (RowB B wk uv (xs++(ms.take j).map fun k=>16*gi+k))∧Hid (∀k,k<B→k≠rp→wk.heap[k]?=w1.heap[k]?)∧Hid (∀k,ws.heap.size≤k→k<w2.heap.size→wk.heap[k]?=w2.heap[k]?)∧Hid (∀b,Value.ownBlock uv=some b→b<ws.heap.size∨w2.heap.size≤b)∧Hid (RB wk rp g zs o3)∧Hid (Only rp w wk)∧Hid (w2.heap.size≤wk.heap.size))
   case atStart=>exact ⟨0,by omega,by omega,rfl,qz (by simpa using uh HW2),HK2,qz (fun _ _ _=>rfl),qz (fun b e=>.inl (uh HOB b e)),HR2,HO2,qz (Nat.le_refl _)⟩
   case round =>
    clear HR2 HO2 HW2 HK2
    obtain ⟨j,rfl,hj,rfl,HW,HK,HKM,HOW,HR,HO,HSZ⟩:=hrel
    rename World=>wk
    by_cases hlt2:j<M
    ·have tl2:(j:Int)<(M:Int):=by omega
     have hjm:j<ms.length:=by rw [←uh HM];exact hlt2
     obtain ⟨m2,rfl,hm1,hm2,_,hmc⟩:=uh HMC j hjm
     have c2':=hmc wk (uh HKM m2 hm1 hm2)
     have hmj:=uh HMLT (ms.getD j 0) (R11.getD_mem hjm)
     have htk:ms.take (j+1)=ms.take j++[ms.getD j 0]:=by
      rw [List.take_add_one,List.getElem?_eq_getElem hjm,List.getD_eq_getElem?_getD,List.getElem?_eq_getElem hjm];rfl
     obtain ⟨mj,hmj2⟩:∃mj,mj=ms.getD j 0:=⟨_,rfl⟩
     rw [←hmj2] at c2' hmj htk
     have HTK:=qz htk
     have fw:IntKind.u8.wrap ((gi:Int)*16)=(gi:Int)*16:=by rw [IntKind.wrap_u8];omega
     have fw2:IntKind.u8.wrap ((gi:Int)*16+(mj:Int))=((16*gi+mj:Nat):Int):=by rw [IntKind.wrap_u8];omega
     have hll:((xs++(ms.take j).map fun k=>16*gi+k).length+1)*8≤140737488355328:=by
      rw [List.length_append,List.length_map,List.length_take];omega
     have hsz2:=uh HSZ
     have hbs2:=uh HBS2
     obtain ⟨X,hX⟩:∃X,X=16*gi+mj:=⟨_,rfl⟩
     rw [←hX] at fw2
     have HX:=qz hX
     clear hmc hmj2 htk hX
     go_wp2_with (at_builtin;go_must (refine y7t (ws:=wk) (B:=B) rfl _ _ rfl _ _ X (by rfl) (by rfl) (uh HW) (by omega) hll ?_;intro v' w' hrow hgr;have HW':=qz hrow;have HGR:=qz hgr;clear hrow hgr))
     go_roundg (M-(j+1))
     case measure=>omega
     case rel =>
      have hgr:=uh HGR
      have hlo:=RowB.lo (uh HW)
      have how:=uh HOW
      refine ⟨j+1,rfl,by omega,by go_num,qz ?_,qz fun k h1 h2=>?_,qz fun k h1 h2=>?_,qz fun b e=>?_,qz ((uh HR).gr hgr hlo (by omega) (by omega)),qz (Only.gr (uh HO) hgr hlo hBw),qz (Nat.le_trans hsz2 hgr.size)⟩
      ·have:=uh HW'
       rw [List.append_assoc] at this
       rw [uh HTK,List.map_append,List.map_singleton,←uh HX]
       exact this
      ·exact (hgr.block k (by omega) (fun e=>by have:=hlo _ e;omega)).trans (uh HK k h1 h2)
      ·exact (hgr.block k (by omega) (fun e=>by have:=how _ e;omega)).trans (uh HKM k h1 h2)
      ·rcases hgr.lies b e with e|e
       ·exact how b e
       ·exact .inr (by omega)
    ·obtain rfl:M=j:=by omega
     have tl2:¬ (M:Int)<(M:Int):=by omega
     have htk:ms.take M=ms:=List.take_of_length_le (by rw [←uh HM];exact Nat.le_refl _)
     have hw:=uh HW
     rw [htk] at hw
     have HWF:=qz hw
     clear hw htk
     go_wp2_with fail
     go_roundg (N-(i+1))
     case measure=>omega
     case rel =>
      exact ⟨i+1,o3,xs++ms.map fun k=>16*gi+k,rfl,by omega,by go_num,by rw [List.length_append,List.length_map,←uh HM];omega,HWF,HK,HR,HO,qz (by have:=uh HSZ;have:=uh HBS2;omega),HNX⟩
  ·obtain rfl:N=i:=by omega
   have tl:¬ (N:Int)<(N:Int):=by omega
   have hfin:=uh HI
   rw [List.drop_eq_nil_of_le (by rw [←uh HN];exact Nat.le_refl _),z9a] at hfin
   injection hfin with e1 e2
   subst e1 e2
   have hpos:xs.length≠0:=fun e=>uh HNE (List.eq_nil_of_length_eq_zero e)
   obtain ⟨a3,c3,hv⟩:=RowB.len (uh HW)
   subst hv
   have hp:((xs.length:Int) == 0)=false:=by
    rw [beq_eq_false_iff_ne];omega
   go_wp2_with fail
   go_ret2
   exact ⟨_,⟨rfl,uh HR,uh HO⟩,z6z hBw (uh HW),uh HNE,by omega⟩
end
namespace Bz
open Infl R11.Runs X10
theorem y8k (l:List Nat) (k j:Nat) (hk:k<l.length):(z0k l k).getD j 0=if j=0 then l.getD k 0 else if j≤k then l.getD (j-1) 0 else l.getD j 0:=by
 unfold z0k
 cases j with
 | zero=>rw [if_pos rfl];rfl
 | succ j =>
  rw [if_neg (by omega),List.getD_cons_succ,List.getD_eq_getElem?_getD]
  by_cases h:j+1≤k
  ·rw [if_pos h,List.getElem?_append_left (by rw [List.length_take];omega),List.getElem?_take,if_pos (by omega),Nat.add_sub_cancel,List.getD_eq_getElem?_getD]
  ·rw [if_neg h,List.getElem?_append_right (by rw [List.length_take];omega),List.getElem?_drop,List.length_take,Nat.min_eq_left (by omega),show k+1+(j-k)=j+1 by omega,List.getD_eq_getElem?_getD]
theorem x8h {t:Nat} {I:In}:∀ (k q v q2:Nat),k≤t→una t k I q=.ok v q2→v<t
 | 0,q,v,q2,_,h=>by rw [una] at h;cases h
 | k+1,q,v,q2,hk,h=>by
  rw [una] at h
  obtain ⟨b,o,h1,h2⟩:=bind_ok h
  split at h2
  ·exact x8h k o v q2 (by omega) h2
  ·unfold Rd.pure at h2
   cases h2
   omega
theorem x3a {t:Nat} {I:In}:∀ (n q:Nat) (l out r:List Nat) (q2:Nat),t≤l.length→(∀j,j<t→l.getD j 0<t)→(∀x∈out,x<t)→sels t n l out I q=.ok r q2→(∀x∈r,x<t)∧r.length=out.length+n
 | 0,q,l,out,r,q2,_,_,ho,h=>by
  rw [sels] at h
  unfold Rd.pure at h
  cases h
  exact ⟨ho,rfl⟩
 | n+1,q,l,out,r,q2,ht,hl,ho,h=>by
  rw [sels] at h
  obtain ⟨k,o,h1,h2⟩:=bind_ok h
  have hk:=x8h t q k o (Nat.le_refl _) h1
  obtain ⟨h3,h4⟩:=x3a n o (z0k l k) (out++[l.getD k 0]) r q2 (by rw [z1q (by omega)];exact ht) (fun j hj=>by
   rw [y8k l k j (by omega)]
   split
   ·exact hl k hk
   ·split
    ·exact hl _ (by omega)
    ·exact hl j hj) (fun x hx=>by
   rcases List.mem_append.1 hx with h|h
   ·exact ho x h
   ·rw [List.mem_singleton] at h;rw [h];exact hl k hk) h2
  exact ⟨h3,by rw [h4,List.length_append,List.length_singleton];omega⟩
theorem getH_lt {I:In} {k q v q2:Nat} (h:getH k I q=.ok v q2):v<2^k:=by
 unfold getH at h
 split at h
 ·cases h;exact vf_lt _ k
 ·cases h
theorem selR_in {t:Nat} {I:In} {q q2:Nat} {r:List Nat} (ht:t≤6) (h:selR t I q=.ok r q2):(∀x∈r,x<t)∧1≤r.length∧r.length<32768:=by
 unfold selR at h
 obtain ⟨n,o,h1,h2⟩:=bind_ok h
 split at h2
 ·cases h2
 ·have hn:=getH_lt h1
  have:=x3a n o [0,1,2,3,4,5] [] r q2 (by simp;omega) (fun j hj=>by
   obtain rfl|rfl|rfl|rfl|rfl|rfl:j=0∨j=1∨j=2∨j=3∨j=4∨j=5:=by omega
   all_goals (simp;try omega)) (fun x hx=>by simp at hx) h2
  rw [List.length_nil] at this
  exact ⟨this.1,by omega,by omega⟩
def z5z (m:Nat) (u:List Nat):Prop:=u.Pairwise (fun x y=>x<y)∧∀z∈u,z<m
theorem z5z.add {i own:Nat} {u:List Nat} (h:z5z (16*i) u):z5z (16*(i+1)) (u++ownBytes i own):=by
 have hm:∀z∈ownBytes i own,16*i≤z∧z<16*(i+1):=fun z hz=>by
  unfold ownBytes at hz
  obtain ⟨k,hk,rfl⟩:=List.mem_map.1 hz
  have:=List.mem_range.1 (List.mem_filter.1 hk).1
  omega
 refine ⟨List.pairwise_append.2 ⟨h.1,?_,fun x hx y hy=>by have:=h.2 x hx;have:=(hm y hy).1;omega⟩,fun z hz=>?_⟩
 ·unfold ownBytes
  rw [List.pairwise_map]
  exact ((List.pairwise_lt_range (n:=16)).filter _).imp fun {a b} hab=>by omega
 ·rcases List.mem_append.1 hz with hz|hz
  ·have:=h.2 z hz;omega
  ·exact (hm z hz).2
theorem z5z.wide {m m':Nat} {u:List Nat} (h:z5z m u) (hm:m≤m'):z5z m' u:=⟨h.1,fun z hz=>Nat.lt_of_lt_of_le (h.2 z hz) hm⟩
theorem y2h {I:In} (gr:Nat):∀ (k q:Nat) (out r:List Nat) (q2:Nat),k≤16→z5z (16*(16-k)) out→useds gr k out I q=.ok r q2→z5z 256 r
 | 0,q,out,r,q2,_,ho,h=>by
  rw [useds] at h
  unfold Rd.pure at h
  cases h
  exact ho
 | k+1,q,out,r,q2,hk,ho,h=>by
  rw [useds] at h
  rw [show 16-(k+1)=15-k by omega] at ho
  split at h
  ·obtain ⟨own,o,_,h2⟩:=bind_ok h
   refine y2h gr k o _ r q2 (by omega) ?_ h2
   have:=ho.add (own:=own)
   rw [show 15-k+1=16-k by omega] at this
   exact this
  ·exact y2h gr k q out r q2 (by omega) (ho.wide (by omega)) h
theorem usedR_in {I:In} {q q2:Nat} {u:List Nat} (h:usedR I q=.ok u q2):u≠[]∧u.Pairwise (fun x y=>x<y)∧∀z∈u,z<256:=by
 unfold usedR at h
 obtain ⟨gr,o,_,h2⟩:=bind_ok h
 obtain ⟨v,o2,h3,h4⟩:=bind_ok h2
 split at h4
 ·cases h4
 ·rename_i hne
  unfold Rd.pure at h4
  cases h4
  have:=y2h gr 16 o [] u q2 (by omega) ⟨List.Pairwise.nil,fun z hz=>by simp at hz⟩ h3
  exact ⟨hne,this.1,this.2⟩
end Bz
section
open Go.RowKit B4 B4.Mth Infl R11.Runs
attribute [local go_sem ↓] wp_at_zero wp_at_succ
open Classical in
noncomputable def gg (ls:List Nat) (f:Nat→Bool) (m:Nat):Nat × Nat × Nat:=if h:∃r:Nat × Nat × Nat,z3o ls f m r.1 r.2.1 r.2.2 then Classical.choose h else (0,0,1)
theorem w0y {ls:List Nat} (hg:B4.Good ls) {f:Nat→Bool} {m s n e:Nat} (h:z3o ls f m s n e):gg ls f m=(s,n,e):=by
 have hx:∃r:Nat × Nat × Nat,z3o ls f m r.1 r.2.1 r.2.2:=⟨(s,n,e),h⟩
 unfold gg
 rw [dif_pos hx]
 obtain ⟨h1,h2,h3⟩:=z3o.one hg (Classical.choose_spec hx) h
 exact Prod.ext h1 (Prod.ext h2 h3)
theorem Code.good {ls:List Nat} {w:World} {cp lo hi:Nat} (h:B4.Code ls w cp lo hi):B4.Good ls:=by
 obtain ⟨_,_,_,_,_,_,_,_,_,_,_,h⟩:=h
 exact h.good
theorem x8s {ls zs:List Nat} {cp lo hi rp g p s q:Nat} {w:World} (h:B4.Code ls w cp lo hi) (hr:RB w rp g zs p) (hz:zs.length≤10000000000000) (ho:rp<lo) (hhi:hi≤w.heap.size) (hw:word gg ls (Bz.bytesH zs) p=.ok s q) :
  Calls Tryz.prog 90 #[.pointer (some ⟨cp,0,none⟩),.pointer (some ⟨rp,0,none⟩)] w fun e w'=>RdTo rp g zs w q (.int .i64 (s:Int)) e w':=by
 obtain ⟨n,h1,rfl⟩:=z5y gg hw
 refine (x8t ls cp lo hi rp g p true zs w h hr (by omega) (.inl ho) hhi).mono ?_
 rintro e w' ⟨s',n',x,rfl,hget,hr',ho'⟩
 have hf:(fun i=>z2h true zs (p+i))=fun i=>(Bz.bytesH zs).f (p+i):=funext fun i=>y9y zs (p+i)
 rw [hf] at hget
 have:=w0y (Code.good h) hget
 have hm:(Bz.bytesH zs).m=8*zs.length:=rfl
 rw [hm] at h1
 rw [h1] at this
 injection this with e1 e2
 injection e2 with e2 e3
 subst e1 e2 e3
 exact ⟨rfl,hr',ho'⟩
theorem z7e.keep {B:Nat} {w w':World} {cs:List (List Nat)} {P:Nat→Option Addr} (h:z7e B w cs P) (hk:∀k,B≤k→k<w.heap.size→w'.heap[k]?=w.heap[k]?) (hs:w.heap.size≤w'.heap.size):z7e B w' cs P:=fun i hi=>by
 obtain ⟨cp,lo,hi',e1,e2,e3,e4⟩:=h i hi
 exact ⟨cp,lo,hi',e1,e2.keep fun k h1 h2=>hk k (by omega) (by omega),e3,by omega⟩
theorem y7f {cs:List (List Nat)} {sel:List Nat} {last f p q:Nat} {out x:List Nat} {I:In} (h:Bz.syms gg cs sel last f out I p=.ok x q):∃f',f=f'+1∧out.length/50<sel.length∧∃s o,word gg (cs.getD (sel.getD (out.length/50) 0) []) I p=.ok s o∧((s=last∧x=out++[s]∧q=o)∨(s≠last∧Bz.syms gg cs sel last f' (out++[s]) I o=.ok x q)):=by
 cases f with
 | zero=>rw [Bz.syms] at h;cases h
 | succ f' =>
  refine ⟨f',rfl,?_⟩
  rw [Bz.syms] at h
  split at h
  ·cases h
  ·refine ⟨by omega,?_⟩
   obtain ⟨s,o,h1,h2⟩:=z0r h
   refine ⟨s,o,h1,?_⟩
   by_cases e:s=last
   ·rw [if_pos e] at h2
    injection h2 with e1 e2
    exact .inl ⟨e,e1.symm,e2.symm⟩
   ·rw [if_neg e] at h2
    exact .inr ⟨e,h2⟩
theorem z9j (rp g p f n t o1 o2 o3 q:Nat) (sel:List Nat) (cs:List (List Nat)) (ss zs:List Nat) (w:World) (h:RB w rp g zs p) (hrp:rp<w.heap.size) (hgw:g<w.heap.size) (hz:zs.length≤10000000000000) (hn:3≤n∧n≤300) (ht:2≤t∧t≤6) (h1:Bz.getH 3 (Bz.bytesH zs) p=.ok t o1) (h2:Bz.selR t (Bz.bytesH zs) o1=.ok sel o2) (h3:Bz.tabs f n t [] (Bz.bytesH zs) o2=.ok cs o3) (hs:∀l∈cs,Canon.sum l=1048576) (h4:Bz.syms gg cs sel (n-1) f [] (Bz.bytesH zs) o3=.ok ss q) :
  Calls Tryz.prog 63 #[.pointer (some ⟨rp,0,none⟩),.int .i64 (n:Int)] w fun e w'=>∃sv,RdTo rp g zs w q sv e w'∧RowI w.heap.size w' sv ss:=by
 have hsel:=Bz.selR_in ht.2 h2
 have HC1:=qz (y3w rp g p t o1 zs w h hz h1 ht)
 have HC2:Hid (∀w1,RB w1 rp g zs o1→rp<w1.heap.size→g<w1.heap.size→_):=qz fun w1 (k1:RB w1 rp g zs o1) (k2:rp<w1.heap.size) (k3:g<w1.heap.size)=>z6u rp g o1 t o2 sel zs w1 k1 k2 k3 hz ht.2 h2
 have HC3:Hid (∀w1,RB w1 rp g zs o2→rp<w1.heap.size→g<w1.heap.size→_):=qz fun w1 (k1:RB w1 rp g zs o2) (k2:rp<w1.heap.size) (k3:g<w1.heap.size)=>y1w rp g o2 f n t o3 cs zs w1 k1 k2 k3 hz hn ht.2 h3 hs
 have H4:=qz h4
 have HSEL:=qz hsel
 have HN:=qz hn
 have hnn:n≤300:=hn.2
 have hn3:3≤n:=hn.1
 have ht6:t≤6:=ht.2
 have HRP:=qz hrp
 have HGW:=qz hgw
 have HZ:=qz hz
 clear h h1 h2 h3 hs h4 hsel hn ht hrp hgw
 go_enter Tryz.func63,Tryz.ntmps63
 go_wp2_with fail
 refine (uh HC1).mono ?_
 rintro e w1 ⟨rfl,hr1,ho1⟩
 have HR1:=qz hr1
 have HO1:=qz ho1
 clear hr1 ho1
 go_wp2_with fail
 refine (uh HC2 w1 (uh HR1) (Nat.lt_of_lt_of_le (uh HRP) (uh HO1).size) (Nat.lt_of_lt_of_le (uh HGW) (uh HO1).size)).mono ?_
 rintro e w2 ⟨H,⟨rfl,hr2,ho2⟩,hH,hnum,hsl,hs6⟩
 have HR2:=qz hr2
 have HO2:=qz ((uh HO1).trans ho2)
 have HNUM:=qz hnum
 have HHW:Hid (w.heap.size≤H):=qz (Nat.le_trans (uh HO1).size hH)
 obtain ⟨N,hN⟩:∃N,N=sel.length:=⟨_,rfl⟩
 have HSN:=qz hN
 rw [←hN] at hsl ⊢
 clear hr2 ho2 hnum hH hs6 hN HR1 HO1
 go_wp2_with fail
 refine (uh HC3 w2 (uh HR2) (Nat.lt_of_lt_of_le (uh HRP) (uh HO2).size) (Nat.lt_of_lt_of_le (uh HGW) (uh HO2).size)).mono ?_
 rintro e w3 ⟨P,⟨rfl,hr3,ho3⟩,hcod,hcl⟩
 have HR3:=qz hr3
 have HO3:=qz ((uh HO2).trans ho3)
 have HNUM3:=qz (Nums.only (uh HNUM) ho3 (by have:=uh HRP;have:=uh HHW;omega))
 have HCOD:=qz hcod
 have HCL:=qz hcl
 have hB2:w.heap.size≤w2.heap.size:=(uh HO2).size
 obtain ⟨o4,ho4⟩:∃o4:Obj,o4=.cells #[Value.pointer (P 0),Value.pointer (P 1),Value.pointer (P 2),Value.pointer (P 3),Value.pointer (P 4),Value.pointer (P 5)] 134:=⟨_,rfl⟩
 obtain ⟨C,hC⟩:∃C,C=w3.heap.size:=⟨_,rfl⟩
 have hbel:Below w3.heap.size w3 (w3.alloc o4):=(Below.refl _ _).alloc (Nat.le_refl _) _
 have hs4:(w3.alloc o4).heap.size=C+1:=by rw [hC];simp
 have hCw:w.heap.size≤C:=by rw [hC];exact (uh HO3).size
 have HR4:Hid (RB (w3.alloc o4) rp g zs o3):=qz ((uh HR3).alloc (by have:=uh HRP;omega) (by have:=uh HGW;omega) _)
 have HO4:Hid (Only rp w (w3.alloc o4)):=qz ((uh HO3).trans (Only.alloc _ _ _))
 have HNUM4:Hid (Nums (w3.alloc o4) H sel):=qz (z0a.alloc (uh HNUM3) _)
 have HCOD4:Hid (z7e w2.heap.size (w3.alloc o4) cs P):=qz (z7e.keep hcod (fun k _ h2=>hbel.block k h2) hbel.size)
 have HV4:Hid (VRow (w3.alloc o4) 134 C 6 (fun j=>.pointer (P j))):=qz (by rw [hC,ho4];exact heap_alloc_new _ _)
 have HHC:Hid (H<C):=qz (by rw [hC];exact z0a.lt (uh HNUM3))
 obtain ⟨w4,hw4⟩:∃w4,w4=w3.alloc o4:=⟨_,rfl⟩
 rw [←hw4] at HR4 HO4 HNUM4 HCOD4 HV4 hs4
 rw [ho4] at hw4
 have HW4:=qz hw4
 have HCW:=qz hC
 have HS4:=qz hs4
 clear hr3 ho3 hcod hcl HNUM HR2 HO2 HC1 HC2 HC3 ho4 hbel hw4 hC HR3 HO3 HNUM3 HCOD hs4
 unfold agg6
 go_wp2_with fail
 rw [←uh HW4,←uh HCW]
 clear HW4
 go_loopg [10,44] N (fun gk uv d ws=>∃ (i p1 f1:Nat) (xs:List Nat),gk=N-i∧i≤N∧d=.int .i64 (i:Int)∧xs.length=50*i∧Hid (RowI (C+1) ws uv xs)∧Hid (∀k,k<C+1→k≠rp→ws.heap[k]?=w4.heap[k]?)∧Hid (RB ws rp g zs p1)∧Hid (Only rp w ws)∧Hid (C+1≤ws.heap.size)∧Hid (Bz.syms gg cs sel (n-1) f1 xs (Bz.bytesH zs) p1=.ok ss q))
 case atStart=>exact ⟨0,o3,f,[],by omega,by omega,rfl,by simp,qz (RowI.nil _ _),qz (fun _ _ _=>rfl),HR4,HO4,qz (by rw [uh HS4];exact Nat.le_refl _),H4⟩
 case round =>
  clear HR4 HO4 H4
  obtain ⟨i,p1,f1,xs,rfl,hi,rfl,hxl,HW,HK,HR,HO,HBS,HI⟩:=hrel
  rename World=>ws
  obtain ⟨f2,_,hlt',_⟩:=y7f (uh HI)
  have hlt:i<N:=by rw [uh HSN];omega
  have tl:(i:Int)<(N:Int):=by omega
  have hrpw:=uh HRP
  have hgww:=uh HGW
  have hHW:=uh HHW
  have hHC:=uh HHC
  have hnm2:Nums ws H sel:=by unfold Nums z0a;rw [uh HK H (by omega) (by omega)];exact uh HNUM4
  have c1:=z0a.cell hnm2 i (by rw [←uh HSN];exact hlt)
  have hst:=(uh HSEL).1 (sel.getD i 0) (R11.getD_mem (by rw [←uh HSN];exact hlt))
  obtain ⟨si,hsi⟩:∃si,si=sel.getD i 0:=⟨_,rfl⟩
  rw [←hsi] at c1 hst
  have HSI:=qz hsi
  have hsn:=uh HSN
  clear hsi hnm2 hlt' hHW hHC hsn
  go_wp2_with fail
  go_loopg [10,48] 50 (fun gk uv d wk=>∃ (j p2 f2:Nat) (ys:List Nat),gk=50-j∧j≤50∧d=.int .i64 (j:Int)∧ys.length=50*i+j∧Hid (RowI (C+1) wk uv ys)∧Hid (∀k,k<C+1→k≠rp→wk.heap[k]?=w4.heap[k]?)∧Hid (RB wk rp g zs p2)∧Hid (Only rp w wk)∧Hid (C+1≤wk.heap.size)∧Hid (Bz.syms gg cs sel (n-1) f2 ys (Bz.bytesH zs) p2=.ok ss q))
  case atStart=>exact ⟨0,p1,f1,xs,by omega,by omega,rfl,by omega,HW,HK,HR,HO,HBS,HI⟩
  case round =>
   clear HW HK HR HO HBS HI
   obtain ⟨j,p2,f2,ys,rfl,hj,rfl,hyl,HW,HK,HR,HO,HBS,HI⟩:=hrel
   rename World=>wk
   by_cases hlt2:j<50
   ·have tl2:(j:Int)<50:=by omega
    obtain ⟨f3,_,hle3,s,o5,hword,hcase⟩:=y7f (uh HI)
    have hdiv:ys.length/50=i:=by omega
    rw [hdiv,←uh HSI] at hword
    have hv:VRow wk 134 C 6 (fun j=>.pointer (P j)):=(uh HV4).of (uh HK C (by omega) (by omega))
    have c2:=hv.cell si (by omega)
    have hcod:z7e w2.heap.size wk cs P:=z7e.keep (uh HCOD4) (fun k h1 h2=>by
     rw [uh HS4] at h2
     exact uh HK k h2 (by omega)) (by rw [uh HS4];exact uh HBS)
    obtain ⟨cp,lo,hi',e1,e2,e3,e4⟩:=hcod si (by rw [uh HCL];exact hst)
    rw [e1] at c2
    have HC:=qz (x8s e2 (uh HR) (uh HZ) (by omega) e4 hword)
    have HCASE:=qz hcase
    have ts6:(si:Int)<6:=by omega
    have hbs:=uh HBS
    clear hv hcod e1 e2 e3 e4 hword hcase hle3
    go_wp2_with fail
    refine (uh HC).mono ?_
    rintro e w5 ⟨rfl,hr5,ho5⟩
    have HR5:=qz hr5
    have HO5:=qz ((uh HO).trans ho5)
    have HW5:=qz (RowI.only (uh HW) ho5 (by omega))
    have HK5:Hid (∀k,k<C+1→k≠rp→w5.heap[k]?=w4.heap[k]?):=qz fun k h1 h2=>(ho5.keep k (by omega) h2).trans (uh HK k h1 h2)
    have hbs5:C+1≤w5.heap.size:=Nat.le_trans hbs ho5.size
    have fw:IntKind.i64.wrap ((n:Int)-1)=((n-1:Nat):Int):=by rw [IntKind.wrap_i64];omega
    have hlen:(ys.length+1)*8≤140737488355328:=by omega
    clear hr5 ho5 HC HW HK HR HO
    rcases uh HCASE with ⟨es,ex,eq⟩|⟨ns,hnext⟩
    ·have hss:((s:Int) == ((n-1:Nat):Int))=true:=by rw [es];simp
     have HEX:=qz ex
     have HEQ:=qz eq
     clear ex eq es
     go_wp2_with (at_builtin;go_must (refine y7u (ws:=w5) (B:=C+1) rfl (.tmp 61) (.tmp 63) rfl _ ys s (by rfl) (by rfl) (uh HW5) hbs5 hlen ?_;intro v' w' hrow hgr;have HW':=qz hrow;have HGR:=qz hgr;clear hrow hgr))
     go_ret2
     have hlo:=RowI.lo (uh HW5)
     refine ⟨_,⟨rfl,?_,Only.gr (uh HO5) (uh HGR) hlo (by omega)⟩,?_⟩
     ·rw [uh HEQ]
      exact (uh HR5).gr (uh HGR) hlo (by omega) (by omega)
     ·rw [uh HEX]
      exact z6z (by omega) (uh HW')
    ·have hss:((s:Int) == ((n-1:Nat):Int))=false:=by rw [beq_eq_false_iff_ne];omega
     have HNX:=qz hnext
     clear hnext ns
     go_wp2_with (at_builtin;go_must (refine y7u (ws:=w5) (B:=C+1) rfl (.tmp 61) (.tmp 63) rfl _ ys s (by rfl) (by rfl) (uh HW5) hbs5 hlen ?_;intro v' w' hrow hgr;have HW':=qz hrow;have HGR:=qz hgr;clear hrow hgr))
     go_roundg (50-(j+1))
     case measure=>omega
     case rel =>
      have hlo:=RowI.lo (uh HW5)
      have hgr:=uh HGR
      exact ⟨j+1,o5,f3,ys++[s],rfl,by omega,by go_num,by simp;omega,HW',qz fun k h1 h2=>(hgr.block k (by omega) (fun e=>by have:=hlo _ e;omega)).trans (uh HK5 k h1 h2),qz ((uh HR5).gr hgr hlo (by omega) (by omega)),qz (Only.gr (uh HO5) hgr hlo (by omega)),qz (Nat.le_trans hbs5 hgr.size),HNX⟩
   ·obtain rfl:j=50:=by omega
    go_wp2_with fail
    go_roundg (N-(i+1))
    case measure=>omega
    case rel=>exact ⟨i+1,p2,f2,ys,rfl,by omega,by go_num,by omega,HW,HK,HR,HO,HBS,HI⟩
end
namespace R11
open Go.RowKit Runs
attribute [local go_sem ↓] wp_at_zero wp_at_succ
def rlen (b:List Nat):Nat:=lead (b.getD 0 0) 258 (b.drop 1)+1
theorem w2m (b:List Nat) (a0:Option Addr) (cap:Nat) (w:World) (hc:BytesIn w a0 b) (h0:0<b.length) (hn:b.length≤1048576) :
  Calls Tryz.prog 68 #[.slice a0 b.length cap] w fun e w'=>e=.returned (.int .i64 ((rlen b:Nat):Int))∧∃q,w'=w.drewN q:=by
 have HC:=qz hc
 obtain ⟨n,hN⟩:∃n,n=b.length:=⟨_,rfl⟩
 have HN:=qz hN
 rw [←hN] at hn h0 ⊢
 clear hN hc
 go_enter Tryz.func68,Tryz.ntmps68
 go_wp2_with fail
 go_loopg [3] 258 (fun gk mv ws=>∃m q:Nat,gk=259-m∧1≤m∧m≤259∧m≤n∧mv=.int .i64 (m:Int)∧Hid (∀j,j<m→b.getD (0+j) 0=b.getD 0 0)∧ws=w.drewN q)
 case atStart=>exact ⟨1,0,by omega,by omega,by omega,by omega,rfl,qz (fun j hj=>by rw [show 0+j=0 by omega]),rfl⟩
 case round =>
  obtain ⟨m,q0,rfl,hm1,hm,ham,rfl,HE,rfl⟩:=hrel
  have HF:Hid ((m=n∨m=259∨b.getD (0+m) 0≠b.getD 0 0)→rlen b=m):=qz fun h=>w1u (at_:=0) (by rw [←uh HN];omega) hm1 hm (uh HE) (by rw [←uh HN];omega)
  by_cases h1:m<n
  ·have t1:(m:Int)<(n:Int):=by omega
   obtain ⟨g,off,rfl,c1⟩:=uh HC 0 (by rw [←uh HN];exact h0)
   obtain ⟨g',off',e1,c2⟩:=uh HC m (by rw [←uh HN];exact h1)
   injection e1 with e1
   injection e1 with e1 e2
   subst e1 e2
   rw [Nat.add_zero] at c1
   have d1:∀q,((w.drewN q0).drewN q).cell? ⟨g,off,none⟩=some (.int .u8 ((b.getD 0 0:Nat):Int)):=fun q=>c1
   have d2:∀q,((w.drewN q0).drewN q).cell? ⟨g,off+m,none⟩=some (.int .u8 ((b.getD m 0:Nat):Int)):=fun q=>c2
   clear c1 c2
   have n0:(0:Int)<(n:Int):=by omega
   by_cases h2:m<259
   ·have t2:(m:Int)<259:=by omega
    obtain ⟨u,hu⟩:∃u,u=b.getD m 0:=⟨_,rfl⟩
    obtain ⟨v,hv⟩:∃v,v=b.getD 0 0:=⟨_,rfl⟩
    rw [←hu] at d2
    rw [←hv] at d1
    have HU:=qz hu
    have HV:=qz hv
    clear hu hv
    obtain ⟨W6,hW6⟩:∃W6,W6=w.drewN q0:=⟨_,rfl⟩
    have HW6:=qz hW6
    rw [←hW6] at d1 d2 ⊢
    clear hW6
    by_cases huv:u=v
    ·have f1:((u:Int) == (v:Int))=true:=by rw [beq_iff_eq];omega
     have f2:(u:Int)=(v:Int):=by omega
     subst huv
     go_upto_region 1 with fail
     go_quiet (fail)
     go_wp2_with fail
     go_roundg (259-(m+1))
     case measure=>omega
     case rel =>
      refine ⟨m+1,q0+nq,rfl,by omega,by omega,by omega,by go_num,qz fun j hj=>?_,by rw [uh HW6,World.drewN_drewN]⟩
      by_cases e:j=m
      ·rw [e,←uh HV,Nat.zero_add,←uh HU]
      ·exact uh HE j (by omega)
    ·have f1:((u:Int) == (v:Int))=false:=by rw [beq_eq_false_iff_ne];omega
     have f2:¬ (u:Int)=(v:Int):=by omega
     go_upto_region 1 with fail
     go_quiet (fail)
     go_wp2_with fail
     go_ret
     exact ⟨by rw [uh HF (.inr (.inr (by rw [Nat.zero_add,←uh HU,←uh HV];exact huv)))];rfl,q0+nq,by rw [uh HW6,World.drewN_drewN]⟩
   ·have t2:¬ (m:Int)<259:=by omega
    have t3:decide ((m:Int)<259)=false:=decide_eq_false t2
    obtain ⟨W6,hW6⟩:∃W6,W6=w.drewN q0:=⟨_,rfl⟩
    have HW6:=qz hW6
    rw [←hW6]
    clear hW6 d1 d2
    go_upto_region 1 with fail
    go_quiet (fail)
    go_wp2_with fail
    go_ret
    exact ⟨by rw [uh HF (.inr (.inl (by omega)))];rfl,q0+nq,by rw [uh HW6,World.drewN_drewN]⟩
  ·have t1:¬ (m:Int)<(n:Int):=by omega
   obtain ⟨W6,hW6⟩:∃W6,W6=w.drewN q0:=⟨_,rfl⟩
   have HW6:=qz hW6
   rw [←hW6]
   clear hW6
   go_upto_region 1 with fail
   go_quiet (fail)
   go_wp2_with fail
   go_ret
   exact ⟨by rw [uh HF (.inl (by omega))];rfl,q0+nq,by rw [uh HW6,World.drewN_drewN]⟩
end R11
namespace R11
open Go.RowKit Runs
attribute [local go_sem ↓] wp_at_zero wp_at_succ
theorem y6z (m c j:Nat) (h:j<m):(List.replicate m c).getD j 0=c:=by
 rw [List.getD_eq_getElem?_getD,List.getElem?_replicate,if_pos h]
 rfl
theorem w2d (w0 w:World) (va:Value) (xs:List Nat) (c m g o cap:Nat) (hA:StB w0 w va xs) (hr:∀j,j<m→w.cell? ⟨g,o+j,none⟩=some (bv c)) (hm:1≤m∧m≤259) (hcap:m≤cap) (hx:xs.length≤100000000) :
  Calls Tryz.prog 69 #[va,.slice (some ⟨g,o,none⟩) m cap] w fun e w'=>∃v,e=.returned v∧StB w0 w' v (xs++piece c m):=by
 have HA:=qz hA
 have HR:Hid (∀j,j<m→w.cell? ((⟨g,o,none⟩:Addr).add j)=some (bv c)):=qz fun j hj=>by
  have e:(⟨g,o,none⟩:Addr).add j=⟨g,o+j,none⟩:=by simp [Addr.add]
  rw [e];exact hr j hj
 obtain ⟨a',c',rfl⟩:=hA.len
 clear hr hA
 by_cases h4:m<4
 ·have t1:(m:Int)<4:=by omega
  have HP:Hid (piece c m=List.replicate m c):=qz (by unfold piece;rw [if_pos h4])
  go_enter Tryz.func69,Tryz.ntmps69
  go_wp2_with (at_builtin;refine x4c rfl _ _ rfl _ _ (List.replicate m c) ⟨g,o,none⟩ m cap (by rfl) (by rfl) (by simp) (uh HA) (fun j hj=>by rw [List.length_replicate] at hj;rw [y6z m c j hj];exact uh HR j hj) (by omega) ?_;intro v3 w3 h3;have H3:=qz h3;clear h3)
  go_ret
  exact ⟨_,rfl,by rw [uh HP];exact uh H3⟩
 ·have t1:¬ (m:Int)<4:=by omega
  have t2:(4:Int)≤(m:Int):=by omega
  have t3:(4:Int)≤(cap:Int):=by omega
  have HP:Hid (piece c m=List.replicate 4 c++[m-4]):=qz (by unfold piece;rw [if_neg h4])
  have f3:IntKind.u8.wrap ((m:Int)-4)=((m-4:Nat):Int):=by rw [IntKind.wrap_u8'];omega
  have f4:((m:Int)-4)%256=((m-4:Nat):Int):=by omega
  go_enter Tryz.func69,Tryz.ntmps69
  go_wp2_with (at_builtin;first|(refine x4c rfl _ _ rfl _ _ (List.replicate 4 c) ⟨g,o,none⟩ 4 cap (by rfl) (by rfl) (by simp) (uh HA) (fun j hj=>by rw [List.length_replicate] at hj;rw [y6z 4 c j hj];exact uh HR j (by omega)) (by omega) ?_;intro v3 w3 h3;have H3:=qz h3;clear h3)|(refine y6a rfl _ _ rfl _ _ (m-4) (by rfl) (by rfl) (uh H3) (by simp;omega) ?_;intro v4 w4 h4 _ _ _;have H4:=qz h4;clear h4))
  go_ret
  exact ⟨_,rfl,by rw [uh HP,←List.append_assoc];exact uh H4⟩
theorem x9t {b:List Nat} (h:0<b.length):1≤rlen b∧rlen b≤259∧rlen b≤b.length∧∀j,j<rlen b→b.getD j 0=b.getD 0 0:=by
 have h1:=z4p (b.getD 0 0) 258 (b.drop 1)
 rw [List.length_drop] at h1
 unfold rlen
 refine ⟨by omega,by omega,by omega,fun j hj=>?_⟩
 cases j with
 | zero=>rfl
 | succ j =>
  have:=y1c (b.getD 0 0) 258 (b.drop 1) j (by omega)
  rw [z2d,Nat.add_comm] at this
  exact this
theorem BytesIn.drop {w:World} {g off:Nat} {b:List Nat} (h:BytesIn w (some ⟨g,off,none⟩) b) (i:Nat):BytesIn w (some ⟨g,off+i,none⟩) (b.drop i):=fun j hj=>by
 rw [List.length_drop] at hj
 obtain ⟨g',off',e,c⟩:=h (i+j) (by omega)
 cases e
 exact ⟨g,off+i,rfl,by rw [z2d,Nat.add_assoc];exact c⟩
theorem ppack_ok (b:List Nat) (a0:Option Addr) (cap:Nat) (w:World) (hc:BytesIn w a0 b) (hn:b.length≤1048576) (hcap:b.length≤cap) :
  Calls Tryz.prog 38 #[.slice a0 b.length cap] w fun e w'=>∃v,e=.returned v∧StB w w' v (z0p b):=by
 have HC:=qz hc
 have HTL:=qz (y3p b.length b (Nat.le_refl _))
 obtain ⟨n,hN⟩:∃n,n=b.length:=⟨_,rfl⟩
 have HN:=qz hN
 rw [←hN] at hn HTL hcap ⊢
 clear hN hc
 go_enter Tryz.func38,Tryz.ntmps38
 go_wp2_with fail
 go_loopg [3,4] n (fun gk o av ws=>∃ (at_:Nat) (xs:List Nat),gk=n-at_∧at_≤n∧av=.int .i64 (at_:Int)∧Hid (StB w ws o xs)∧Hid (xs++z0p (b.drop at_)=z0p b))
 case atStart=>exact ⟨0,[],by omega,by omega,rfl,qz (StB.nil w),qz rfl⟩
 case round =>
  obtain ⟨at_,xs,rfl,hat,rfl,HS,HX⟩:=hrel
  rename World=>wo
  by_cases hlt:at_<n
  ·have tl:(at_:Int)<(n:Int):=by omega
   have hab:at_<b.length:=by rw [←uh HN];exact hlt
   obtain ⟨g,off,rfl,_⟩:=uh HC at_ hab
   have hce:¬cap=at_:=by omega
   have t3:(at_:Int)≤(n:Int):=by omega
   have t4:(n:Int)≤(cap:Int):=by omega
   have HD:=qz ((uh HC).drop at_)
   have hdl:(b.drop at_).length=n-at_:=by rw [List.length_drop,←uh HN]
   have hrl:=x9t (b:=b.drop at_) (by omega)
   have HST:=qz (x2c hab rfl)
   have HRR:Hid (lead (b.getD at_ 0) 258 (b.drop (at_+1))+1=rlen (b.drop at_)):=qz (by
    unfold rlen
    rw [z2d,List.drop_drop];rfl)
   have HXL:Hid (xs.length≤n+n/4):=qz (by
    have h1:=congrArg List.length (uh HX)
    rw [List.length_append] at h1
    have h2:=uh HTL
    omega)
   have hcall:=fun (W:World) (hb:Below w.heap.size w W)=>w2m (b.drop at_) (some ⟨g,off+at_,none⟩) (cap-at_) W ((uh HD).stays hb) (by omega) (by omega)
   rw [hdl] at hrl hcall
   have HRL:=qz hrl.2.2.2
   have HCALL:=qz hcall
   obtain ⟨m,hm⟩:∃m,m=rlen (b.drop at_):=⟨_,rfl⟩
   rw [←hm] at hrl HRR HRL HCALL
   rw [uh HRR] at HST
   clear hm hdl hcall
   obtain ⟨hm1,hm2,hm3,-⟩:=hrl
   go_wp2_with fail
   refine (uh HCALL wo (uh HS).bel).mono ?_
   rintro e w1 ⟨rfl,q,rfl⟩
   have HS1:=qz ((uh HS).drewN q)
   obtain ⟨W1,hW1⟩:∃W1,W1=wo.drewN q:=⟨_,rfl⟩
   rw [←hW1] at HS1 ⊢
   clear hW1 HCALL HS
   have t5:(at_:Int)≤(at_:Int)+(m:Int):=by omega
   have t6:(at_:Int)+(m:Int)≤(cap:Int):=by omega
   have hcl:∀j,j<m→W1.cell? ⟨g,off+at_+j,none⟩=some (bv (b.getD at_ 0)):=fun j hj=>by
    obtain ⟨g',off',e,c⟩:=((uh HD).stays (uh HS1).bel) j (by rw [List.length_drop,←uh HN];omega)
    cases e
    rw [c]
    have h1:=uh HRL j hj
    rw [h1,z2d]
    rfl
   have HCL:=qz hcl
   clear hcl
   go_wp2_with fail
   refine (w2d w W1 _ xs (b.getD at_ 0) m g (off+at_) m (uh HS1) (uh HCL) ⟨hm1,hm2⟩ (Nat.le_refl _) (by have:=uh HXL;omega)).mono ?_
   rintro e w2 ⟨v2,rfl,h2⟩
   have H2:=qz h2
   clear h2
   go_wp2_with fail
   go_roundg (n-(at_+m))
   case measure=>omega
   case rel=>exact ⟨at_+m,_,rfl,by omega,by go_num,H2,qz (by rw [←uh HX,uh HST,List.append_assoc])⟩
  ·obtain rfl:at_=n:=by omega
   have tl:¬ (at_:Int)<(at_:Int):=by omega
   go_wp2_with fail
   go_ret
   refine ⟨_,rfl,?_⟩
   have h1:=uh HX
   rw [uh HN,List.drop_length,show z0p []=[] from rfl,List.append_nil] at h1
   rw [←h1]
   exact uh HS
end R11
namespace R11
open Go.RowKit Runs
attribute [local go_sem ↓] wp_at_zero wp_at_succ
def z1h (w:World) (g:Nat) (t:TypeId) (v:Value):Prop:=w.heap[g]?=some (.cells #[v] t (0,0))
theorem z1h.cell {w:World} {g:Nat} {t:TypeId} {v:Value} (h:z1h w g t v):w.cell? ⟨g,0,none⟩=some v:=by
 simp only [World.cell?,show w.heap[g]?=_ from h];rfl
theorem z1h.free {w:World} {g:Nat} {t:TypeId} {v:Value} (h:z1h w g t v):w.frozen? ⟨g,0,none⟩=false:=by
 simp [World.frozen?,show w.heap[g]?=_ from h]
theorem z1h.set {w:World} {g:Nat} {t:TypeId} {v:Value} (h:z1h w g t v) (u:Value):z1h (w.setCell ⟨g,0,none⟩ u) g t u:=by
 unfold z1h
 rw [heap_setCell_same w g 0 _ t u h]
 rfl
theorem z1h.lt {w:World} {g:Nat} {t:TypeId} {v:Value} (h:z1h w g t v):g<w.heap.size:=z0d h
structure Cnt (w0:World) (gr:Nat) (most:Int) (k:Nat) (w:World):Prop where
 box:z1h w gr 3 (.int .i64 (most-(k:Int)))
 bel:Below gr w0 w
 le:(k:Int)≤most
theorem x7a (w0 w:World) (gr:Nat) (most:Int) (k:Nat) (h:Cnt w0 gr most k w) (hm:most≤9223372036854775807) (c:Value) (x:Nat) :
  Calls Tryz.prog 115 #[c,.int .i64 (x:Int),.pointer (some ⟨gr,0,none⟩)] w fun e w'=>((k:Int)+(x:Int)≤most∧e=.returned (.int .i64 0)∧Cnt w0 gr most (k+x) w')∨(most<(k:Int)+(x:Int)∧e=.returned (.int .i64 3)∧w'=w):=by
 have c1:=h.box.cell
 have c2:=h.box.free
 have hle:=h.le
 have H:=qz h
 clear h
 by_cases hb:most-(k:Int)<(x:Int)
 ·have HB:Hid (most<(k:Int)+(x:Int)):=qz (by omega)
  go_enter Tryz.func115,Tryz.ntmps115
  go_wp2_with fail
  go_ret
  exact .inr ⟨uh HB,rfl,rfl⟩
 ·have HB:Hid ((k:Int)+(x:Int)≤most):=qz (by omega)
  have fw:IntKind.i64.wrap (most-(k:Int)-(x:Int))=most-(k:Int)-(x:Int):=by rw [IntKind.wrap_i64];omega
  go_enter Tryz.func115,Tryz.ntmps115
  go_wp2_with fail
  go_ret
  refine .inl ⟨uh HB,rfl,?_,?_,by have:=uh HB;omega⟩
  ·have:=(uh H).box.set (.int .i64 (most-(k:Int)-(x:Int)))
   rw [show most-(k:Int)-(x:Int)=most-((k+x:Nat):Int) by omega] at this ⊢
   exact this
  ·exact (uh H).bel.setCell (Nat.le_refl _) _
theorem StB.shape {w0 w:World} {v:Value} {xs:List Nat} (h:StB w0 w v xs):∃a n c,v=.slice a n c:=by
 obtain ⟨a,c,e⟩:=h.len
 exact ⟨a,_,c,e⟩
structure Mak (w0:World) (ga:Nat) (out:List Nat) (va:Value) (w:World):Prop where
 box:z1h w ga 22 va
 row:StB w0 w va out
 lo:w0.heap.size≤ga
theorem Mak.apart {w0 w:World} {ga:Nat} {out:List Nat} {va:Value} (h:Mak w0 ga out va w):va.ownBlock≠some ga:=by
 intro e
 rcases h.row.own.2 with ⟨e1,e2⟩|⟨g,cap,cur,e1,hb,hh,_⟩
 ·rw [e1] at e;cases e
 ·rw [e1] at e
  obtain rfl:g=ga:=Option.some.inj e
  have:=h.box
  unfold z1h at this
  rw [hh] at this
  injection this with this
  injection this with _ h2
  cases h2
theorem y5c {w0 ws w':World} {ga:Nat} {out:List Nat} {va:Value} (h:Mak w0 ga out va ws) (hk:∀k,k<ws.heap.size→va.ownBlock≠some k→w'.heap[k]?=ws.heap[k]?):z1h w' ga 22 va:=by
 unfold z1h
 rw [hk ga h.box.lt h.apart]
 exact h.box
theorem x5r {w0 ws w':World} {ga:Nat} {out xs:List Nat} {va v':Value} (h:Mak w0 ga out va ws) (h3:StB w0 w' v' xs) (hk:∀k,k<ws.heap.size→va.ownBlock≠some k→w'.heap[k]?=ws.heap[k]?) (hb:∀b,v'.ownBlock=some b→va.ownBlock=some b∨ws.heap.size≤b):Mak w0 ga xs v' (w'.setCell ⟨ga,0,none⟩ v'):=by
 refine ⟨(y5c h hk).set v',⟨own_keep h3.own fun g e=>heap_setCell_other _ _ _ _ ?_,h3.bel.setCell h.lo _⟩,h.lo⟩
 show g≠ga
 rintro rfl
 rcases hb g e with h4|h4
 ·exact h.apart h4
 ·have:=h.box.lt;omega
theorem x7b (w0 w:World) (ga:Nat) (out:List Nat) (va:Value) (c x:Nat) (h:Mak w0 ga out va w) (hx:x≤255) (hl:out.length+x≤1000000000) :
  Calls Tryz.prog 116 #[.int .u8 (c:Int),.int .i64 (x:Int),.pointer (some ⟨ga,0,none⟩)] w fun e w'=>e=.returned (.int .i64 0)∧∃v',Mak w0 ga (out++List.replicate x c) v' w':=by
 have H:=qz h
 clear h
 go_enter Tryz.func116,Tryz.ntmps116
 go_wp2_with fail
 go_loopg [7] x (fun gk d ws=>∃ (k:Nat),gk=x-k∧k≤x∧d=.int .i64 (k:Int)∧Hid (∃v',Mak w0 ga (out++List.replicate k c) v' ws))
 case atStart=>exact ⟨0,by omega,by omega,rfl,qz ⟨va,by simpa using uh H⟩⟩
 case round =>
  clear H
  obtain ⟨k,rfl,hk,rfl,H⟩:=hrel
  by_cases hlt:k<x
  ·have tl:(k:Int)<(x:Int):=by omega
   obtain ⟨v1,h1⟩:=uh H
   have c1:=h1.box.cell
   have H1:=qz h1
   clear h1 H
   go_wp2_with (at_builtin;refine y6a rfl _ _ rfl _ _ c (by rfl) (by rfl) (uh H1).row (by rw [List.length_append,List.length_replicate];omega) ?_;intro v3 w3 h3 h4 h5 h6;have H3:Hid (Mak w0 ga (out++List.replicate k c++[c]) v3 (w3.setCell ⟨ga,0,none⟩ v3)):=qz (x5r (uh H1) h3 h4 h6);have c3:w3.cell? ⟨ga,0,none⟩=some v1:=(y5c (uh H1) h4).cell;have c4:w3.frozen? ⟨ga,0,none⟩=false:=(y5c (uh H1) h4).free;obtain ⟨a3,n3,k3,e3⟩:=h3.shape;subst e3;clear h3 h4 h5 h6)
   go_roundg (x-(k+1))
   case measure=>omega
   case rel=>exact ⟨k+1,rfl,by omega,by go_num,qz ⟨_,by rw [List.replicate_succ',←List.append_assoc];exact uh H3⟩⟩
  ·obtain rfl:k=x:=by omega
   have tl:¬ (k:Int)<(k:Int):=by omega
   go_wp2_with fail
   go_ret
   exact ⟨rfl,uh H⟩
end R11
namespace R11
open Go.RowKit Runs
attribute [local go_sem ↓] wp_at_zero wp_at_succ
structure Teller (fn:Nat) (cb:Array Value) (m:Int) (B:Prop) (I:List Nat→World→Prop) (K:World→Prop):Prop where
 enter:∀ (args:Array Value) (x:World),Sem.run Tryz.prog (callFunc fn args) x=.ok (.enter fn args) x
 call:∀ (out:List Nat) (W:World) (c k:Nat),I out W→k≤255→(((out.length:Int)+(k:Int)≤m)∨B)→Calls Tryz.prog fn (#[.int .u8 (c:Int),.int .i64 (k:Int)]++cb) W fun e W' =>
  ((out.length:Int)+(k:Int)≤m∧e=.returned (.int .i64 0)∧I (out++List.replicate k c) W')∨(m<(out.length:Int)+(k:Int)∧e=.returned (.int .i64 3)∧K W')
 keep:∀out W,I out W→K W
theorem z5d (j c x:Nat) (h:¬ (0<j∧x=c)):(if 0<j∧x=c then j+1 else 1)=1:=if_neg h
theorem z5m (m:Int) (x:Nat) (r:List Nat) (j c:Nat) (out:List Nat) (hj:j≠4):unp m (x :: r) j c out=if (out.length:Int)=m then ([],3) else unp m r (if 0<j∧x=c then j+1 else 1) x (out++[x]):=by
 conv=>lhs;rw [unp]
 rw [if_neg hj]
theorem y7o (m:Int):∀ (l:List Nat) (a a':Nat) (out:List Nat),unp m l 0 a out=unp m l 0 a' out
 | [],a,a',out=>by rw [unp,unp]
 | c :: r,a,a',out=>by
  rw [z5m _ _ _ _ _ _ (by omega),z5m _ _ _ _ _ _ (by omega),z5d _ _ _ (by omega),z5d _ _ _ (by omega)]
theorem y7m (m:Int) (l:List Nat) (j c:Nat) (out:List Nat) (hj:j<4) (h:∀x r,l=x :: r→x≠c):unp m l j c out=unp m l 0 0 out:=by
 cases l with
 | nil=>rw [unp,unp,if_neg (by omega),if_neg (by omega)]
 | cons x r =>
  rw [z5m _ _ _ _ _ _ (by omega),z5m _ _ _ _ _ _ (by omega),z5d _ _ _ (fun q=>h x r rfl q.2),z5d _ _ _ (by omega)]
theorem x7g (m:Int) (r:List Nat) (j c:Nat) (out:List Nat) (hj:j<4):unp m (c :: r) j c out=if (out.length:Int)=m then ([],3) else unp m r (j+1) c (out++[c]):=by
 rw [z5m _ _ _ _ _ _ (by omega)]
 by_cases h:0<j
 ·rw [show (if 0<j∧c=c then j+1 else 1)=j+1 from if_pos ⟨h,rfl⟩]
 ·obtain rfl:j=0:=by omega
  rw [z5d _ _ _ (by omega)]
def RpIs (r:List Nat × Nat) (I:List Nat→World→Prop) (K:World→Prop) (e:Ending) (w':World):Prop:=e=.returned (.int .i64 (r.2:Int))∧(r.2=0→I r.1 w')∧K w'
theorem w2n (b:List Nat) (a0:Option Addr) (cap:Nat) (w:World) (fn:Nat) (cb:Array Value) (m:Int) (B:Prop) (I:List Nat→World→Prop) (K:World→Prop) (hT:Teller fn cb m B I K) (hI:I [] w) (hm:0≤m)
  (hc:∀out W,I out W→BytesIn W a0 b) (hb:∀z∈b,z<256) (hn:b.length≤2000000) (hB:B∨∃r,unp m b 0 0 []=(r,0)) :
  Calls Tryz.prog 96 #[.slice a0 b.length cap,.func (.func fn) #[] cb] w fun e w'=>RpIs (unp m b 0 0 []) I K e w':=by
 have hE:=hT.enter
 have HT:=qz hT
 have HI:=qz hI
 have HC:=qz hc
 have HBB:=qz hb
 obtain ⟨n,hN⟩:∃n,n=b.length:=⟨_,rfl⟩
 have HN:=qz hN
 obtain ⟨U,hU⟩:∃U,U=unp m b 0 0 []:=⟨_,rfl⟩
 rw [←hN] at hn ⊢
 rw [←hU] at hB ⊢
 have HU:=qz hU
 have HB:=qz hB
 clear hN hc hb hT hI hU hB
 go_enter Tryz.func96,Tryz.ntmps96
 go_wp2_with fail
 go_step3
 go_wp2_with fail
 go_step3
 go_wp2_with fail
 go_loopg [5] n (fun gk av ws=>∃ (at_:Nat) (out:List Nat),gk=n-at_∧at_≤n∧av=.int .i64 (at_:Int)∧Hid (I out ws)∧Hid ((out.length:Int)≤m)∧Hid (unp m (b.drop at_) 0 0 out=U))
 case atStart=>exact ⟨0,[],by omega,by omega,rfl,HI,qz (by simpa using hm),qz (by rw [uh HU];rfl)⟩
 case round =>
  clear HI
  obtain ⟨at_,out,rfl,hat,rfl,HI,HO,HX⟩:=hrel
  rename World=>wo
  by_cases hlt:at_<n
  ·have tl:(at_:Int)<(n:Int):=by omega
   have hab:at_<b.length:=by rw [←uh HN];exact hlt
   obtain ⟨g,off,ea,c1⟩:=uh HC out wo (uh HI) at_ hab
   subst ea
   obtain ⟨c,hcc⟩:∃c,c=b.getD at_ 0:=⟨_,rfl⟩
   rw [←hcc] at c1
   have HCC:=qz hcc
   clear hcc
   go_wp2_with fail
   clear c1
   have H0:Hid (unp m (b.drop (at_+0)) 0 c out=U):=qz (by rw [Nat.add_zero,y7o m _ c 0];exact uh HX)
   clear HX
   go_loopg [5,17] 4 (fun gk av jv ws=>∃ (j:Nat) (out':List Nat),gk=4-j∧j≤4∧at_+j≤n∧av=.int .i64 ((at_+j:Nat):Int)∧jv=.int .i64 (j:Int)∧Hid (I out' ws)∧Hid ((out'.length:Int)≤m)∧Hid (unp m (b.drop (at_+j)) j c out'=U))
   case atStart=>exact ⟨0,out,by omega,by omega,by omega,rfl,rfl,HI,HO,H0⟩
   case round =>
    clear H0 HI HO
    obtain ⟨j,out',rfl,hj4,hajn,rfl,rfl,HI,HO,HX⟩:=hrel
    rename World=>wj
    obtain ⟨p,hp⟩:∃p,p=at_+j:=⟨_,rfl⟩
    have hpj:=hp
    rw [←hp] at hajn HX ⊢
    clear hp
    have HPJ:=qz hpj
    clear hpj
    by_cases hjl:j<4
    ·have tj:(j:Int)<4:=by omega
     by_cases hpn:p<n
     ·have hpb:p<b.length:=by rw [←uh HN];exact hpn
      obtain ⟨g',off',ea,c2⟩:=uh HC out' wj (uh HI) p hpb
      cases ea
      have tp1:((p:Int) == (n:Int))=false:=by rw [beq_eq_false_iff_ne];omega
      have tp2:¬ (p:Int)=(n:Int):=by omega
      have tp3:(p:Int)<(n:Int):=by omega
      obtain ⟨x,hx⟩:∃x,x=b.getD p 0:=⟨_,rfl⟩
      have hd:=z3r hpb
      rw [←hx] at c2 hd
      have HD:=qz hd
      have HXX:=qz hx
      clear hx hd
      by_cases hxc:x=c
      ·subst hxc
       have hX:=uh HX
       rw [uh HD,x7g m _ j x out' hjl] at hX
       have HX2:=qz hX
       clear hX HX
       have hfit:(((out'.length:Int)+((1:Nat):Int)≤m)∨B):=by
        rcases uh HB with h|⟨r,h⟩
        ·exact .inr h
        ·refine .inl ?_
         have h1:=uh HX2
         have h2:=uh HO
         by_cases h3:(out'.length:Int)=m
         ·rw [if_pos h3,h] at h1;cases h1
         ·omega
       have HFIT:=qz hfit
       clear hfit
       go_wp2_with fail
       refine ((uh HT).call out' wj x 1 (uh HI) (by omega) (uh HFIT)).mono ?_
       rintro e w1 (⟨hle,rfl,hI1⟩|⟨hgt,rfl,hK1⟩)
       ·have HI1:=qz hI1
        have HLE:=qz hle
        clear hI1 hle
        go_wp2_with fail
        go_roundg (4-(j+1))
        case measure=>omega
        case rel =>
         have h1:=uh HX2
         have h2:=uh HLE
         rw [if_neg (by omega)] at h1
         have h3:=uh HPJ
         refine ⟨j+1,out'++[x],rfl,by omega,by omega,?_,by go_num,HI1,qz (by simp;omega),qz (by rw [show at_+(j+1)=p+1 by omega];exact h1)⟩
         rw [show at_+(j+1)=p+1 by omega]
         go_num
       ·have HK1:=qz hK1
        have HGT:=qz hgt
        clear hK1 hgt
        go_wp2_with fail
        rw [Exit.noGoto_ret]
        go_ret
        have h1:=uh HX2
        have h2:=uh HGT
        have h3:=uh HO
        rw [if_pos (by omega)] at h1
        rw [←h1]
        exact ⟨rfl,fun h=>by simp at h,uh HK1⟩
      ·have f1:((x:Int) != (c:Int))=true:=by rw [bne_iff_ne];omega
       have f2:¬ (x:Int)=(c:Int):=by omega
       have hj1:at_<p:=by
        have h1:=uh HPJ
        rcases Nat.eq_zero_or_pos j with e|e
        ·exfalso
         apply hxc
         rw [uh HXX,uh HCC,h1,e]
         rfl
        ·omega
       go_wp2_with fail
       go_roundg (n-p)
       case measure=>omega
       case rel=>exact ⟨p,out',rfl,by omega,rfl,HI,HO,qz (by rw [←uh HX];exact (y7m m _ j c out' hjl (fun y r e=>by rw [uh HD] at e;cases e;exact hxc)).symm)⟩
     ·obtain rfl:p=n:=by omega
      have tp1:((p:Int) == (p:Int))=true:=by rw [beq_iff_eq]
      go_wp2_with fail
      go_roundg (p-p)
      case measure=>omega
      case rel=>exact ⟨p,out',rfl,by omega,rfl,HI,HO,qz (by rw [←uh HX];exact (y7m m _ j c out' hjl (fun y r e=>by rw [uh HN,List.drop_length] at e;cases e)).symm)⟩
    ·obtain rfl:j=4:=by omega
     by_cases hpn:p<n
     ·have hpb:p<b.length:=by rw [←uh HN];exact hpn
      obtain ⟨g',off',ea,c2⟩:=uh HC out' wj (uh HI) p hpb
      cases ea
      have tp1:((p:Int) == (n:Int))=false:=by rw [beq_eq_false_iff_ne];omega
      have tp2:¬ (p:Int)=(n:Int):=by omega
      have tp3:(p:Int)<(n:Int):=by omega
      have hxb:=uh HBB _ (getD_mem hpb)
      have hX:=uh HX
      rw [z3r hpb,unp,if_pos rfl] at hX
      obtain ⟨x,hx⟩:∃x,x=b.getD p 0:=⟨_,rfl⟩
      rw [←hx] at c2 hxb hX
      have HX2:=qz hX
      have f5:IntKind.i64.wrap (x:Int)=(x:Int):=by rw [IntKind.wrap_i64];omega
      clear hx hX HX
      have hfit:(((out'.length:Int)+(x:Int)≤m)∨B):=by
       rcases uh HB with h|⟨r,h⟩
       ·exact .inr h
       ·refine .inl ?_
        have h1:=uh HX2
        by_cases h3:m-(out'.length:Int)<(x:Int)
        ·rw [if_pos h3,h] at h1;cases h1
        ·omega
      have HFIT:=qz hfit
      clear hfit
      go_wp2_with fail
      refine ((uh HT).call out' wj c x (uh HI) (by omega) (uh HFIT)).mono ?_
      rintro e w1 (⟨hle,rfl,hI1⟩|⟨hgt,rfl,hK1⟩)
      ·have HI1:=qz hI1
       have HLE:=qz hle
       clear hI1 hle
       go_wp2_with fail
       go_roundg (n-(p+1))
       case measure=>have:=uh HPJ;omega
       case rel =>
        have h1:=uh HX2
        have h2:=uh HLE
        rw [if_neg (by omega)] at h1
        exact ⟨p+1,_,rfl,by omega,by go_num,HI1,qz (by simp;omega),qz (by rw [←h1];exact y7o ..)⟩
      ·have HK1:=qz hK1
       have HGT:=qz hgt
       clear hK1 hgt
       go_wp2_with fail
       rw [Exit.noGoto_ret]
       go_ret
       have h1:=uh HX2
       have h2:=uh HGT
       rw [if_pos (by omega)] at h1
       rw [←h1]
       exact ⟨rfl,fun h=>by simp at h,uh HK1⟩
     ·obtain rfl:p=n:=by omega
      have tp1:((p:Int) == (p:Int))=true:=by rw [beq_iff_eq]
      go_wp2_with fail
      rw [Exit.noGoto_ret]
      go_ret
      have h1:=uh HX
      rw [uh HN,List.drop_length,unp,if_pos rfl] at h1
      rw [←h1]
      exact ⟨rfl,fun h=>by simp at h,(uh HT).keep _ _ (uh HI)⟩
  ·obtain rfl:at_=n:=by omega
   have tl:¬ (at_:Int)<(at_:Int):=by omega
   go_wp2_with fail
   go_ret
   have h1:=uh HX
   rw [uh HN,List.drop_length,unp,if_neg (by omega)] at h1
   rw [←h1]
   exact ⟨rfl,fun _=>uh HI,(uh HT).keep _ _ (uh HI)⟩
end R11
namespace R11
open Go.RowKit Runs
attribute [local go_sem ↓] wp_at_zero wp_at_succ
theorem z7c (m:Int):∀ (l:List Nat) (like last:Nat) (out r:List Nat),unp m l like last out=(r,0)→out.length≤r.length∧r.length≤out.length+255*l.length∨∃z∈l,256≤z
 | [],like,last,out,r,h=>by
  rw [unp] at h
  split at h
  ·cases h
  ·cases h;exact .inl ⟨Nat.le_refl _,by simp⟩
 | c :: l,like,last,out,r,h=>by
  rw [unp] at h
  rcases Nat.lt_or_ge c 256 with hc|hc
  ·split at h
   ·split at h
    ·cases h
    ·rcases z7c m l _ _ _ r h with h1|⟨z,hz,h1⟩
     ·rw [List.length_append,List.length_replicate] at h1
      exact .inl ⟨by omega,by simp only [List.length_cons];omega⟩
     ·exact .inr ⟨z,List.mem_cons_of_mem _ hz,h1⟩
   ·split at h
    ·cases h
    ·rcases z7c m l _ _ _ r h with h1|⟨z,hz,h1⟩
     ·rw [List.length_append,List.length_singleton] at h1
      exact .inl ⟨by omega,by simp only [List.length_cons];omega⟩
     ·exact .inr ⟨z,List.mem_cons_of_mem _ hz,h1⟩
  ·exact .inr ⟨c,List.mem_cons_self ..,hc⟩
theorem y2f (m m':Int):∀ (l:List Nat) (like last:Nat) (out r:List Nat),(∀z∈l,z<256)→unp m l like last out=(r,0)→(r.length:Int)≤m'→unp m' l like last out=(r,0)
 | [],like,last,out,r,_,h,hm=>by
  rw [unp] at h ⊢
  exact h
 | c :: l,like,last,out,r,hl,h,hm=>by
  rw [unp] at h ⊢
  have hl':∀z∈l,z<256:=fun z hz=>hl z (List.mem_cons_of_mem _ hz)
  have hmono:∀like last out,unp m l like last out=(r,0)→out.length≤r.length:=fun like last out h=>by
   rcases z7c m l like last out r h with h1|⟨z,hz,h1⟩
   ·exact h1.1
   ·have:=hl' z hz;omega
  by_cases h4:like=4
  ·rw [if_pos h4] at h ⊢
   by_cases hb:m-(out.length:Int)<(c:Int)
   ·rw [if_pos hb] at h;cases h
   ·rw [if_neg hb] at h
    have h1:=hmono _ _ _ h
    rw [List.length_append,List.length_replicate] at h1
    rw [if_neg (by omega)]
    exact y2f m m' l _ _ _ r hl' h hm
  ·rw [if_neg h4] at h ⊢
   by_cases hb:(out.length:Int)=m
   ·rw [if_pos hb] at h;cases h
   ·rw [if_neg hb] at h
    have h1:=hmono _ _ _ h
    rw [List.length_append,List.length_singleton] at h1
    rw [if_neg (by omega)]
    exact y2f m m' l _ _ _ r hl' h hm
theorem y5v (m:Int):∀ (l:List Nat) (like last:Nat) (out:List Nat),(unp m l like last out).2≠0→(unp m l like last out).1=[]
 | [],like,last,out,h=>by
  rw [unp] at h ⊢
  split<;>simp_all
 | c :: l,like,last,out,h=>by
  rw [unp] at h ⊢
  by_cases h4:like=4
  ·rw [if_pos h4] at h ⊢
   by_cases hb:m-(out.length:Int)<(c:Int)
   ·rw [if_pos hb]
   ·rw [if_neg hb] at h ⊢
    exact y5v m l _ _ _ h
  ·rw [if_neg h4] at h ⊢
   by_cases hb:(out.length:Int)=m
   ·rw [if_pos hb]
   ·rw [if_neg hb] at h ⊢
    exact y5v m l _ _ _ h
theorem x8i (b:List Nat) (a0:Option Addr) (cap gb:Nat) (w:World) (fn:Nat) (cb:Array Value) (m:Int) (B:Prop) (I:List Nat→World→Prop) (K:World→Prop) (hbox:z1h w gb 22 (.slice a0 b.length cap)) (hT:Teller fn cb m B I K) (hI:I [] w) (hm:0≤m)
  (hc:∀out W,I out W→BytesIn W a0 b) (hb:∀z∈b,z<256) (hn:b.length≤2000000) (hB:B∨∃r,unp m b 0 0 []=(r,0)) :
  Calls Tryz.prog 95 #[.func (.func fn) #[] cb,.pointer (some ⟨gb,0,none⟩)] w fun e w'=>RpIs (unp m b 0 0 []) I K e w':=by
 have c1:=hbox.cell
 have HR:=qz (w2n b a0 cap w fn cb m B I K hT hI hm hc hb hn hB)
 obtain ⟨n,hN⟩:∃n,n=b.length:=⟨_,rfl⟩
 obtain ⟨U,hU⟩:∃U,U=unp m b 0 0 []:=⟨_,rfl⟩
 rw [←hN] at HR c1
 rw [←hU] at HR ⊢
 clear hbox hT hI hc hb hB hN hU hn
 go_enter Tryz.func95,Tryz.ntmps95
 go_wp2_with fail
 refine (uh HR).mono ?_
 rintro e w1 ⟨rfl,h2,h3⟩
 have H2:=qz h2
 have H3:=qz h3
 clear h2 h3
 go_wp2_with fail
 go_ret
 exact ⟨rfl,uh H2,uh H3⟩
theorem y8f (w:World) (gr:Nat) (most:Int) (hm:most≤9223372036854775807) (hg:gr=w.heap.size):Teller 115 #[.pointer (some ⟨gr,0,none⟩)] most True (fun out W=>Cnt w gr most out.length W) (fun W=>Below gr w W) where
 enter:=Tryz.call115
 call:=fun out W c k h hk _=>by
  refine (x7a w W gr most out.length h hm (.int .u8 (c:Int)) k).mono ?_
  rintro e w' (⟨h1,h2,h3⟩|⟨h1,h2,h3⟩)
  ·exact .inl ⟨h1,h2,by rw [List.length_append,List.length_replicate];exact h3⟩
  ·exact .inr ⟨h1,h2,by rw [h3];exact h.bel⟩
 keep:=fun out W h=>h.bel
theorem y8u (w:World) (ga:Nat) (m:Int) (hm:m≤1000000000):Teller 116 #[.pointer (some ⟨ga,0,none⟩)] m False (fun out W=>∃v,Mak w ga out v W) (fun W=>Below w.heap.size w W) where
 enter:=Tryz.call116
 call:=fun out W c k h hk hB=>by
  obtain ⟨v,h⟩:=h
  have hle:(out.length:Int)+(k:Int)≤m:=by rcases hB with h|h;exact h;exact h.elim
  refine (x7b w W ga out v c k h hk (by omega)).mono ?_
  rintro e w' ⟨h1,h2⟩
  exact .inl ⟨hle,h1,h2⟩
 keep:=fun out W ⟨v,h⟩=>h.row.bel
theorem w1w (b:List Nat) (a0:Option Addr) (cap gb:Nat) (most:Int) (w:World) (hbox:z1h w gb 22 (.slice a0 b.length cap)) (hc:BytesIn w a0 b) (hb:∀z∈b,z<256) (hn:b.length≤2000000) (hm0:0≤most) (hm:most≤9223372036854775807) :
  Calls Tryz.prog 94 #[.int .i64 most,.func (.func 95) #[] #[.pointer (some ⟨gb,0,none⟩)]] w fun e w'=>w0k w (unp most b 0 0 []) e w':=by
 obtain ⟨i0,hi,hz0,hz1,hz2⟩:=info_parts info5
 obtain ⟨gr,hgr⟩:∃gr,gr=w.heap.size:=⟨_,rfl⟩
 have hbg:=hbox.lt
 have hC0:Cnt w gr most 0 (w.alloc (.cells #[.int .i64 most] 3)):=⟨by
  unfold z1h
  rw [hgr,heap_alloc_new]
  simp,by rw [hgr];exact (Below.refl _ _).alloc (Nat.le_refl _) _,by simpa using hm0⟩
 have HC1:=qz (x8i b a0 cap gb (w.alloc (.cells #[.int .i64 most] 3)) 115 _ most True _ _ (by unfold z1h;rw [Below.heap_alloc _ _ _ hbg];exact hbox) (y8f w gr most hm hgr) hC0 hm0 (fun out W h=>hc.stays (by rw [←hgr];exact h.bel)) hb hn (.inl trivial))
 have HMONO:=qz (fun r=>z7c most b 0 0 [] r)
 have HERR:=qz (y5v most b 0 0 [])
 have HLESS:=qz (fun (T:Int) r=>y2f most T b 0 0 [] r hb)
 have HBOX:=qz hbox
 have HC:=qz hc
 have HBB:=qz hb
 have HNN:=qz hn
 have HGR:=qz hgr
 obtain ⟨U,hU⟩:∃U,U=unp most b 0 0 []:=⟨_,rfl⟩
 rw [←hU] at HC1 HMONO HERR HLESS ⊢
 have HU:=qz hU
 clear hbox hc hb hn hU hC0
 go_enter Tryz.func94,Tryz.ntmps94
 go_wp2_with fail
 rw [←hgr]
 clear hgr
 refine (uh HC1).mono ?_
 rintro e w1 ⟨rfl,hC,hK⟩
 have HK:=qz hK
 clear hK HC1
 obtain ⟨r,code⟩:=U
 by_cases hz:code=0
 ·subst hz
  have hC1:=hC rfl
  have HCN:=qz hC1
  have c1:=hC1.box.cell
  have hT:r.length≤510000000:=by
   rcases uh HMONO r rfl with h|⟨z,hz,h⟩
   ·have:=uh HNN;have:=h.2;simp at this;omega
   ·have:=uh HBB z hz;omega
  have hle:=hC1.le
  obtain ⟨T,hTT⟩:∃T,T=r.length:=⟨_,rfl⟩
  obtain ⟨R,hR⟩:∃R,R=most-(T:Int):=⟨_,rfl⟩
  dsimp only at c1 hle
  rw [←hTT] at hT c1 hle
  rw [←hR] at c1
  have fR:IntKind.i64.wrap (most-R)=(T:Int):=by rw [IntKind.wrap_i64];omega
  have HTT:=qz hTT
  have hszr:=hC1.box.lt
  obtain ⟨x2,hx2,hown,hgrow⟩:=run_make_own (P:=Tryz.prog) w1 gr 22 5 i0 (.int .u8 0) 1 Tryz.underlying22 hi hz0 hz1 .i64 .i64 T (by rw [hz2];omega) (by unfold maxLen;omega) (by omega)
  have HOWN:=qz hown
  have HGROW:=qz hgrow
  have hs2:w1.heap.size<x2.heap.size:=by
   rcases hown.2 with ⟨e1,_⟩|⟨g,cap',cur,e1,hb',hh,_⟩
   ·cases e1
   ·have h1:=z0d hh
    injection e1 with e1
    injection e1 with e1
    injection e1 with e1
    rw [←e1] at h1
    exact h1
  have HMK:Hid (Mak w x2.heap.size [] (.slice (some ⟨w1.heap.size,0,none⟩) 0 T) (x2.alloc (.cells #[.slice (some ⟨w1.heap.size,0,none⟩) 0 T] 22))):=qz (by
   have hg:=uh HGR
   have hb2:Below w.heap.size w x2:=by rw [←hg];exact (uh HK).grown hgrow (by omega) (fun k e=>by cases e)
   refine ⟨heap_alloc_new _ _,⟨by rw [←hg];exact hown.alloc _,hb2.alloc (by omega) _⟩,by omega⟩)
  have hU2:unp (T:Int) b 0 0 []=(r,0):=uh HLESS T r rfl (by omega)
  have HC2:=qz (x8i b a0 cap gb (x2.alloc (.cells #[.slice (some ⟨w1.heap.size,0,none⟩) 0 T] 22)) 116 _ (T:Int) False _ _ (by unfold z1h;rw [(uh HMK).row.bel.block gb hbg];exact uh HBOX) (y8u w x2.heap.size T (by omega)) ⟨_,uh HMK⟩ (by omega) (fun out W ⟨v,h⟩=>(uh HC).stays h.row.bel) (uh HBB) (uh HNN) (.inr ⟨r,hU2⟩))
  rw [hU2] at HC2
  clear hC hC1 hTT hR hown hgrow hU2
  go_wp2_with fail
  refine (uh HC2).mono ?_
  rintro e w3 ⟨rfl,h3,h4⟩
  obtain ⟨v3,h3⟩:=h3 rfl
  have c3:=h3.box.cell
  have H3:=qz h3
  clear h3 h4 HC2 HMK hx2 c1
  go_wp2_with fail
  go_ret2
  exact ⟨_,rfl,(uh H3).row⟩
 ·have hz1':((code:Int) != 0)=true:=by rw [bne_iff_ne];omega
  have hz2':¬ (code:Int)=0:=by omega
  have hnil:=uh HERR hz
  dsimp only at hnil
  subst hnil
  go_wp2_with fail
  go_ret2
  exact ⟨_,rfl,StB.none w w1 (by rw [←uh HGR];exact uh HK)⟩
theorem StB.base {w0 w1 w:World} {v:Value} {xs:List Nat} (h:StB w1 w v xs) (hb:Below w0.heap.size w0 w1):StB w0 w v xs:=by
 refine ⟨⟨h.own.1,?_⟩,hb.trans (h.bel.mono hb.size)⟩
 rcases h.own.2 with e|⟨g,cap,cur,e,hg,r⟩
 ·exact .inl e
 ·exact .inr ⟨g,cap,cur,e,Nat.le_trans hb.size hg,r⟩
theorem punpack_ok (b:List Nat) (a0:Option Addr) (cap:Nat) (most:Int) (w:World) (hc:BytesIn w a0 b) (hb:∀z∈b,z<256) (hn:b.length≤2000000) (hm2:most≤9223372036854775807) (hm1 : -9223372036854775808≤most) :
  Calls Tryz.prog 65 #[.slice a0 b.length cap,.int .i64 most] w fun e w'=>w0k w (z2v b most) e w':=by
 have HC:=qz hc
 have HBB:=qz hb
 have HNN:=qz hn
 have hbel:Below w.heap.size w (w.alloc (.cells #[.slice a0 b.length cap] 22)):=(Below.refl _ _).alloc (Nat.le_refl _) _
 have HBEL:=qz hbel
 have HX:=qz (fun h0=>w1w b a0 cap w.heap.size most (w.alloc (.cells #[.slice a0 b.length cap] 22)) (heap_alloc_new _ _) (hc.stays hbel) hb hn h0 hm2)
 obtain ⟨n,hN⟩:∃n,n=b.length:=⟨_,rfl⟩
 rw [←hN] at HX HBEL ⊢
 clear hc hb hbel hN hn
 by_cases hneg:most<0
 ·have e1:z2v b most=([],2):=by unfold z2v;rw [if_pos hneg]
  rw [e1]
  go_enter Tryz.func65,Tryz.ntmps65
  go_wp2_with fail
  go_ret2
  exact ⟨_,rfl,StB.none w _ (uh HBEL)⟩
 ·have e1:z2v b most=unp most b 0 0 []:=by unfold z2v;rw [if_neg hneg]
  rw [e1]
  have HX2:=qz (uh HX (by omega))
  generalize unp most b 0 0 []=U at *
  clear e1 HX
  go_enter Tryz.func65,Tryz.ntmps65
  go_wp2_with fail
  refine (uh HX2).mono ?_
  rintro e w1 ⟨v,rfl,h2⟩
  have H2:=qz h2
  clear h2 HX2
  go_wp2_with fail
  go_ret2
  exact ⟨_,rfl,(uh H2).base (uh HBEL)⟩
end R11
namespace R11
open Go.RowKit Runs
attribute [local go_sem ↓] wp_at_zero wp_at_succ
def z2c (C:Nat→Bool):List Value:=(List.range 256).map fun i=>Value.bool (C i)
def z1g (w:World) (g:Nat) (C:Nat→Bool):Prop:=w.heap[g]?=some (.cells (z2c C).toArray 144 (0,0))
theorem w1z (w:World):(zeroValue 144).run Tryz.prog w=.ok (.agg (z2c fun _=>false).toArray) w :=
 (zero_of_info (P:=Tryz.prog) (t:=144) (v:=.agg (z2c fun _=>false).toArray) (n:=256) (by kernel_rfl)).1 w
theorem z7g (C:Nat→Bool) (i:Nat) (hi:i<256):(z2c C)[i]?=some (.bool (C i)):=by
 unfold z2c
 rw [List.getElem?_map,List.getElem?_range hi]
 rfl
theorem z9n (C:Nat→Bool):(z2c C).length=256:=by simp [z2c]
theorem z1g.cell {w:World} {g:Nat} {C:Nat→Bool} (h:z1g w g C) (i:Nat) (hi:i<256):w.cell? ⟨g,i,none⟩=some (.bool (C i)):=by
 simp only [World.cell?,show w.heap[g]?=_ from h,List.getElem?_toArray]
 exact z7g C i hi
theorem z1g.free {w:World} {g:Nat} {C:Nat→Bool} (h:z1g w g C) (i:Nat):w.frozen? ⟨g,i,none⟩=false:=by
 simp [World.frozen?,show w.heap[g]?=_ from h]
theorem z1g.congr {w:World} {g:Nat} {C C':Nat→Bool} (h:z1g w g C) (hc:∀i,i<256→C i=C' i):z1g w g C':=by
 unfold z1g
 rw [show z2c C'=z2c C from List.map_congr_left fun i hi=>by rw [hc i (List.mem_range.1 hi)]]
 exact h
theorem z1g.set {w:World} {g:Nat} {C:Nat→Bool} (h:z1g w g C) (i:Nat) (x:Bool):z1g (w.setCell ⟨g,i,none⟩ (.bool x)) g (fun j=>if j=i then x else C j):=by
 unfold z1g
 rw [heap_setCell_same w g i _ 144 (.bool x) h]
 congr 2
 apply Array.ext (by simp [z2c])
 intro j j1 j2
 have hj:j<256:=by simpa [z2c] using j2
 rw [Array.getElem_setIfInBounds (by simpa [z2c] using hj)]
 simp only [z2c,List.getElem_toArray,List.getElem_map,List.getElem_range]
 by_cases e:i=j
 ·subst e;simp
 ·rw [if_neg e,if_neg (fun q=>e q.symm)]
theorem x0c {w:World} {g:Nat} {C:Nat→Bool} (h:z1g w g C):w.rangeAt g 0 (z2c C):=by
 intro j v hv
 have hj:j<256:=by
  have:=(List.getElem?_eq_some_iff.1 hv).1
  rwa [z9n] at this
 rw [z7g C j hj] at hv
 cases hv
 rw [Nat.zero_add]
 exact h.cell j hj
theorem z9k (C:Nat→Bool) (CS:List Value) (hCS:CS=z2c C) (v:Nat) (hv:v<256) (w:World):(Instr.index 144 (.agg CS.toArray) (.int .i64 (v:Int))).run Tryz.prog w=.ok (.bool (C v)) w:=by
 have hz:(Go.sizeOf 4).run Tryz.prog w=.ok 1 w:=Tryz.sizeOf4 w
 have h2:CS[v]?=some (.bool (C v)):=by rw [hCS];exact z7g C v hv
 simp [Instr.index,run_underlying Tryz.underlying144,asIntOf,hv,go_sem,hz,h2]
theorem x6y {b:List Nat} {k:Nat} (hk:k<b.length) (i:Nat):i∈b.take (k+1)↔(i∈b.take k∨i=b.getD k 0):=by
 rw [List.take_add_one,List.getElem?_eq_getElem hk,List.mem_append,List.getD_eq_getElem?_getD,List.getElem?_eq_getElem hk]
 simp
def y0p (b:List Nat) (c:Nat):List Nat:=(List.range c).filter fun c=>decide (c∈b)
theorem y5x (b:List Nat) (c:Nat):y0p b (c+1)=y0p b c++if c∈b then [c] else []:=by
 unfold y0p
 rw [List.range_succ,List.filter_append]
 congr 1
 by_cases h:c∈b
 ·rw [if_pos h];simp [h]
 ·rw [if_neg h];simp [h]
theorem y9p (b:List Nat) (c:Nat):(y0p b c).length≤c:=by
 have:=List.length_filter_le (fun c=>decide (c∈b)) (List.range c)
 rwa [List.length_range] at this
theorem y8d (b:List Nat) (a0:Option Addr) (cap:Nat) (w:World) (hc:BytesIn w a0 b) (hb:∀z∈b,z<256) (hn:b.length≤1048576) :
  Calls Tryz.prog 70 #[.slice a0 b.length cap] w fun e w'=>∃v,e=.returned v∧StB w w' v (z0o b):=by
 have HC:=qz hc
 have HBB:=qz hb
 obtain ⟨n,hN⟩:∃n,n=b.length:=⟨_,rfl⟩
 have HN:=qz hN
 rw [←hN] at hn ⊢
 clear hN hc hb
 obtain ⟨H,hH⟩:∃H,H=w.heap.size:=⟨_,rfl⟩
 have hz:=w1z w
 obtain ⟨ZC,hZC⟩:∃ZC,ZC=(z2c fun _=>false).toArray:=⟨_,rfl⟩
 rw [←hZC] at hz
 have H0:Hid (z1g (w.alloc (.cells ZC 144)) H (fun i=>decide (i∈b.take 0))):=qz (by
  rw [hZC,hH]
  exact z1g.congr (C:=fun _=>false) (heap_alloc_new _ _) (fun i _=>by simp))
 have HB:Hid (Below H w (w.alloc (.cells ZC 144))):=qz (by rw [hH];exact (Below.refl _ _).alloc (Nat.le_refl _) _)
 have HH:=qz hH
 clear hZC
 go_enter Tryz.func70,Tryz.ntmps70
 go_wp2_with fail
 rw [←hH]
 clear hH hz
 go_loopg [11] n (fun gk d ws=>∃ (k:Nat),gk=n-k∧k≤n∧d=.int .i64 (k:Int)∧Hid (z1g ws H (fun i=>decide (i∈b.take k)))∧Hid (Below H w ws))
 case atStart=>exact ⟨0,by omega,by omega,rfl,H0,HB⟩
 case round =>
  clear H0 HB
  obtain ⟨k,rfl,hk,rfl,H0,HB⟩:=hrel
  by_cases hlt:k<n
  ·have tl:(k:Int)<(n:Int):=by omega
   have hkb:k<b.length:=by rw [←uh HN];exact hlt
   obtain ⟨g,off,rfl,c1⟩:=uh HC k hkb
   have hx:=uh HBB _ (getD_mem hkb)
   have d1:wr.cell? ⟨g,off+k,none⟩=some (.int .u8 ((b.getD k 0:Nat):Int)):=by
    rw [(uh HB).cell (by rw [uh HH];exact cell_lt c1)];exact c1
   have HS:Hid (z1g (wr.setCell ⟨H,b.getD k 0,none⟩ (.bool true)) H (fun i=>decide (i∈b.take (k+1)))):=qz (((uh H0).set (b.getD k 0) true).congr fun i _=>by
    rw [decide_eq_decide.2 (x6y hkb i)]
    by_cases e:i=b.getD k 0
    ·rw [if_pos e,decide_eq_true (.inr e)]
    ·rw [if_neg e,decide_eq_decide]
     exact ⟨.inl,fun h=>h.resolve_right e⟩)
   have d2:=(uh H0).cell (b.getD k 0) hx
   have d3:=(uh H0).free (b.getD k 0)
   generalize b.getD k 0=x at *
   generalize decide (x∈b.take k)=y at d2
   have hxi:(x:Int)<256:=by omega
   clear c1
   go_wp2_with fail
   go_roundg (n-(k+1))
   case measure=>omega
   case rel=>exact ⟨k+1,rfl,by omega,by go_num,HS,qz ((uh HB).setCell (Nat.le_refl _) _)⟩
  ·obtain rfl:k=n:=by omega
   have tl:¬ (k:Int)<(k:Int):=by omega
   have H1:Hid (z1g wr H (fun i=>decide (i∈b))):=qz (by
    have:=uh H0
    rw [uh HN,List.take_length] at this
    exact this)
   obtain ⟨CS,hCS⟩:∃CS,CS=z2c (fun i=>decide (i∈b)):=⟨_,rfl⟩
   have hrg:=x0c (uh H1)
   have hln:(Tryz.prog.info? 144).map (·.size)=some CS.length:=by rw [hCS,z9n];kernel_rfl
   rw [←hCS] at hrg
   have HCS:=qz hCS
   clear hCS H0
   go_wp2_with (refine wpList_load_mid rfl 144 _ rfl H 0 rfl CS (.array 256 4) hrg Tryz.underlying144 rfl hln ?_)
   clear hrg hln H1
   have HU0:Hid (StB w wr (.slice none 0 0) (y0p b 0)):=qz (StB.none w wr (by rw [←uh HH];exact uh HB))
   clear HB
   go_loopg [6,19] 256 (fun gk o d ws=>∃ (c:Nat),gk=256-c∧c≤256∧d=.int .i64 (c:Int)∧Hid (StB w ws o (y0p b c)))
   case atStart=>exact ⟨0,by omega,by omega,rfl,HU0⟩
   case round =>
    clear HU0
    obtain ⟨c,rfl,hc,rfl,HU⟩:=hrel
    rename World=>wc
    by_cases hcl:c<256
    ·have tc:(c:Int)<256:=by omega
     have c1:=z9k (fun i=>decide (i∈b)) CS (uh HCS) c hcl wc
     have hus:=y5x b c
     have hul:=y9p b c
     have f3:IntKind.u8.wrap (c:Int)=(c:Int):=by rw [IntKind.wrap_u8'];omega
     have f4:(c:Int)%256=(c:Int):=by omega
     by_cases hcb:c∈b
     ·rw [if_pos hcb] at hus
      have hd:decide (c∈b)=true:=decide_eq_true hcb
      rw [hd] at c1
      have HUS:=qz hus
      clear hus hcb hd
      go_wp2_with (at_builtin;refine y6a rfl _ _ rfl _ _ c (by rfl) (by rfl) (uh HU) (by omega) ?_;intro v3 w3 h3 _ _ _;have H3:=qz h3;clear h3)
      go_roundg (256-(c+1))
      case measure=>omega
      case rel=>exact ⟨c+1,rfl,by omega,by go_num,qz (by rw [uh HUS];exact uh H3)⟩
     ·rw [if_neg hcb,List.append_nil] at hus
      have hd:decide (c∈b)=false:=decide_eq_false hcb
      rw [hd] at c1
      have HUS:=qz hus
      clear hus hcb hd
      go_wp2_with fail
      go_roundg (256-(c+1))
      case measure=>omega
      case rel=>exact ⟨c+1,rfl,by omega,by go_num,qz (by rw [uh HUS];exact uh HU)⟩
    ·obtain rfl:c=256:=by omega
     go_wp2_with fail
     go_ret
     exact ⟨_,rfl,uh HU⟩
end R11
namespace R11
open Go.RowKit Runs
attribute [local go_sem ↓] wp_at_zero wp_at_succ
theorem x8k (w:World):(zeroValue 110).run Tryz.prog w=.ok (.agg ((List.replicate 256 0).map bv).toArray) w :=
 (zero_of_info (P:=Tryz.prog) (t:=110) (v:=.agg ((List.replicate 256 0).map bv).toArray) (n:=256) (by kernel_rfl)).1 w
theorem z8z {l:List Nat} {k:Nat} (hk:k<l.length) (z:List Nat):z0k (l++z) k=z0k l k++z:=by
 unfold z0k
 rw [List.getD_eq_getElem?_getD,List.getElem?_append_left hk,←List.getD_eq_getElem?_getD,List.take_append_of_le_length (by omega),List.drop_append_of_le_length (by omega)]
 simp
theorem z8t (u:List Nat) (hu:u.length≤256):splice ((List.replicate 256 0).map bv) 0 (u.map bv)=(u++List.replicate (256-u.length) 0).map bv:=by
 unfold splice
 rw [List.take_zero,List.nil_append,List.map_replicate,List.drop_replicate,List.length_map,Nat.zero_add,List.map_append,List.map_replicate]
theorem pfront_ok (b:List Nat) (a0:Option Addr) (cap:Nat) (w:World) (hc:BytesIn w a0 b) (hb:∀z∈b,z<256) (hn:b.length≤1048576) :
  Calls Tryz.prog 39 #[.slice a0 b.length cap] w fun e w'=>∃v g,e=.returned (.tuple #[v,.slice (some ⟨g,0,none⟩) b.length b.length])∧Row w.heap.size g w' v .u8 5 (z0o b)∧w.heap.size≤g∧z0a w' .i64 3 g b.length (fun i=>(z0n b).getD i 0)∧Below w.heap.size w w':=by
 have HC:=qz hc
 have HBB:=qz hb
 have HB0:=qz (fun W (hW:Below w.heap.size w W)=>y8d b a0 cap W (hc.stays hW) hb hn)
 obtain ⟨n,hN⟩:∃n,n=b.length:=⟨_,rfl⟩
 have HN:=qz hN
 rw [←hN] at hn HB0 ⊢
 clear hN hc hb
 go_enter Tryz.func39,Tryz.ntmps39
 go_wp2_with fail
 refine (uh HB0 w (Below.refl _ _)).mono ?_
 rintro e w1 ⟨u,rfl,hu⟩
 have HU:=qz hu
 clear HB0
 have hz:=x8k w1
 obtain ⟨ZL,hZL⟩:∃ZL,ZL=(List.replicate 256 0).map bv:=⟨_,rfl⟩
 rw [←hZL] at hz
 have HZL:=qz hZL
 obtain ⟨ua,uc,rfl,huc,hub,hug⟩:=hu.lies
 have HUB:=qz hub
 have hml:=used_len b
 obtain ⟨m,hm⟩:∃m,m=(z0o b).length:=⟨_,rfl⟩
 rw [←hm] at hml huc HU ⊢
 have HM:=qz hm
 obtain ⟨gl,hgl⟩:∃gl,gl=w1.heap.size:=⟨_,rfl⟩
 have hwg:w.heap.size≤gl:=by rw [hgl];exact hu.bel.size
 have HB1:Hid (Below gl w1 (w1.alloc (.cells ZL.toArray 110))):=qz (by rw [hgl];exact (Below.refl _ _).alloc (Nat.le_refl _) _)
 have HG1:Hid ((w1.alloc (.cells ZL.toArray 110)).heap[gl]?=some (.cells ZL.toArray 110 (0,0))):=qz (by rw [hgl];exact heap_alloc_new _ _)
 have HGL:=qz hgl
 have hzl:ZL.length=256:=by rw [hZL];simp
 have HZ:=qz hzl
 obtain ⟨CV,hCV⟩:∃CV,CV=(z0o b).map bv:=⟨_,rfl⟩
 have HCV:=qz hCV
 have HCL:Hid (CV.length=m):=qz (by rw [hCV,List.length_map,hm])
 have H1:Hid (∀v∈CV,v.oneCell'=true):=qz (by rw [hCV];exact z3q _)
 have HPOS:Hid (0<m→∃ad,ua=some ad∧∀ (j:Nat) v,CV[j]?=some v→(w1.alloc (.cells ZL.toArray 110)).cell? (ad.add j)=some v):=qz fun h0=>by
  obtain ⟨g,off,e,_⟩:=hub 0 (by omega)
  subst e
  refine ⟨_,rfl,?_⟩
  rw [hCV]
  exact y1g (hub.stays (by rw [←hgl];exact uh HB1))
 clear hu hub hZL hm hCV hzl hug
 go_upto_region 3 with fail
 rw [←hgl]
 clear hgl hz
 have hmk:=fun W=>z0e W n (by omega)
 go_wp2_with (refine wpList_copy_splice rfl (.tmp 10) (.tmp 11) 22 22 rfl 5 Tryz.underlying22 (by kernel_rfl) (some ⟨gl,0,none⟩) ua 256 256 m uc (by rfl) (by rfl) gl 0 ZL 110 (uh HG1) CV (by rw [uh HCL];exact (Nat.min_eq_left hml).symm) (fun h=>⟨rfl,uh HPOS (by rw [←uh HCL];exact h)⟩) (by rw [uh HCL,uh HZ];omega) (uh H1) gl w1 (uh HB1) (Nat.le_refl _) ?_;intro w2 hg2 hb2;have HB2:=qz hb2;clear hb2;rw [uh HCL])
 have HO2:Hid (z3g w2 gl (z0o b++List.replicate (256-m) 0)):=qz (by
  unfold z3g
  rw [uh hg2,uh HCV,uh HZL,uh HM,z8t _ (by rw [←uh HM];exact hml)])
 clear hg2 HPOS HCL H1 HG1 HB1 HCV HZL HZ CV ZL hmk
 obtain ⟨gp,hgp⟩:∃gp,gp=w2.heap.size:=⟨_,rfl⟩
 have hlp:gl<gp:=by rw [hgp];exact z0d (uh HO2)
 have HI0:Hid (z0a (w2.alloc (.cells (z0b .i64 n (fun _=>0)) 3)) .i64 3 gp n (fun j=>if j<0 then (z0n b).getD j 0 else 0)):=qz (by
  rw [hgp]
  exact z0a.congr (C:=fun _=>0) (heap_alloc_new _ _) (fun i _=>by simp))
 have HB3:Hid (Below gl w1 (w2.alloc (.cells (z0b .i64 n (fun _=>0)) 3))):=qz ((uh HB2).alloc (by omega) _)
 have HO3:Hid (z3g (w2.alloc (.cells (z0b .i64 n (fun _=>0)) 3)) gl (z0o b++List.replicate (256-m) 0)):=qz (by
  unfold z3g
  rw [Below.heap_alloc _ _ _ (by omega)]
  exact uh HO2)
 rw [←hgp]
 clear hgp HB2 HO2
 go_loopg [18] n (fun gk d ws=>∃ (i:Nat) (l:List Nat),gk=n-i∧i≤n∧d=.int .i64 (i:Int)∧Hid (z3g ws gl (l++List.replicate (256-m) 0))∧Hid (l.Perm (z0o b))∧Hid (z0a ws .i64 3 gp n (fun j=>if j<i then (z0n b).getD j 0 else 0))∧Hid (Below gl w1 ws)∧Hid (z3b l (b.drop i)=(z0n b).drop i))
 case atStart=>exact ⟨0,z0o b,by omega,by omega,rfl,HO3,qz (List.Perm.refl _),HI0,HB3,qz rfl⟩
 case round =>
  clear HO3 HI0 HB3
  obtain ⟨i,l,rfl,hi,rfl,HO,HP,HI,HB,HF⟩:=hrel
  rename World=>wi
  have HBW:Hid (Below w.heap.size w wi):=qz ((uh HU).bel.trans ((uh HB).mono hwg))
  by_cases hlt:i<n
  ·have tl:(i:Int)<(n:Int):=by omega
   have hib:i<b.length:=by rw [←uh HN];exact hlt
   obtain ⟨g,off,rfl,c1⟩:=((uh HC).stays (uh HBW)) i hib
   have hmem:b.getD i 0∈l:=(uh HP).mem_iff.2 (z5f.2 ⟨uh HBB _ (getD_mem hib),getD_mem hib⟩)
   have hF:=uh HF
   rw [z3r hib,z3b] at hF
   obtain ⟨c,hcc⟩:∃c,c=b.getD i 0:=⟨_,rfl⟩
   rw [←hcc] at c1 hmem hF
   have hll:l.length=m:=by rw [uh HM];exact (uh HP).length_eq
   have hls:∀z∈l,z<256:=fun z hz=>(z5f.1 ((uh HP).mem_iff.1 hz)).1
   have hpl:=z5h hmem
   have HX:=qz (x5i l gl 0 m c wi (by
    have:=(uh HO).upto m (by rw [List.length_append,hll];omega)
    rwa [List.take_append_of_le_length (by omega),←hll,List.take_length] at this) hls hmem)
   have hkk:=z5h hmem
   have hfi:(z0n b).length=n:=by unfold z0n;rw [z1u,uh HN]
   have hF1:(z0n b).getD i 0=place c l:=by
    have:=congrArg (fun q=>q.getD 0 0) hF
    simp only [List.getD_cons_zero] at this
    rw [this,z2d]
    rfl
   have HF2:Hid (z3b (z0k l (place c l)) (b.drop (i+1))=(z0n b).drop (i+1)):=qz (by
    have:=congrArg List.tail hF
    simpa [List.tail_drop] using this)
   have HP2:=qz (((z2s hkk.1).trans (uh HP)))
   have HTA:=qz (z8z hkk.1 (List.replicate (256-m) 0))
   rw [hll] at HX hkk
   obtain ⟨k,hk⟩:∃k,k=place c l:=⟨_,rfl⟩
   rw [←hk] at HX hkk hF1 HF2 HP2 HTA
   have d1:=(uh HI).cell i hlt
   rw [if_neg (Nat.lt_irrefl i)] at d1
   have d2:=(uh HI).free i
   have HI2:Hid (z0a (wi.setCell ⟨gp,i,none⟩ (.int .i64 (k:Int))) .i64 3 gp n (fun j=>if j<i+1 then (z0n b).getD j 0 else 0)):=qz (((uh HI).set i k).congr fun j _=>by
    unfold upd
    by_cases e:j=i
    ·subst e;rw [if_pos rfl,if_pos (by omega),hF1]
    ·rw [if_neg e]
     dsimp only
     by_cases e2:j<i
     ·rw [if_pos e2,if_pos (by omega)]
     ·rw [if_neg e2,if_neg (by omega)])
   have d3:(wi.setCell ⟨gp,i,none⟩ (.int .i64 (k:Int))).cell? ⟨gp,i,none⟩=some (.int .i64 (k:Int)):=by
    have:=(uh HI2).cell i hlt
    rw [if_pos (by omega),hF1] at this
    exact this
   have HX2:=qz (x0m (l++List.replicate (256-m) 0) gl k (wi.setCell ⟨gp,i,none⟩ (.int .i64 (k:Int))) (by
    unfold z3g
    rw [heap_setCell_other _ _ _ _ (by show gl≠gp;omega)]
    exact uh HO) (by rw [List.length_append,List.length_replicate,hll];omega) (by omega))
   have HB2:Hid (Below gl w1 (wi.setCell ⟨gp,i,none⟩ (.int .i64 (k:Int)))):=qz ((uh HB).setCell (by show gl≤gp;omega) _)
   have t3:(m:Int)≤256:=by omega
   have hgs:=(uh HI).lt
   clear hcc hmem hF hll hls hpl hfi hF1 hk HO HP HI HB HF HBW
   go_wp2_with fail
   refine (uh HX).mono ?_
   rintro e w3 ⟨rfl,rfl⟩
   go_wp2_with fail
   refine (uh HX2).mono ?_
   rintro e w4 ⟨rfl,h4,h5⟩
   have H4:=qz h4
   have H5:=qz h5
   clear h4 h5
   go_wp2_with fail
   go_roundg (n-(i+1))
   case measure=>omega
   case rel =>
    refine ⟨i+1,_,rfl,by omega,by go_num,qz (by rw [←uh HTA];exact uh H4),HP2,qz ((uh HI2).of ((uh H5).keep gp (by simpa using hgs) (.inr (by omega)))),qz ((uh H5).below (uh HB2) (Nat.le_refl _) (by have:=(uh HB2).size;simp at this;simp;omega)),HF2⟩
  ·obtain rfl:i=n:=by omega
   have tl:¬ (i:Int)<(i:Int):=by omega
   go_wp2_with fail
   go_ret2
   refine ⟨_,gp,rfl,?_,by omega,(uh HI).congr fun j hj=>if_pos hj,uh HBW⟩
   have h1:=x9u (n:=0) (k:=.u8) rfl (uh HU).own
   exact (h1.of_below (by rw [←uh HGL];exact uh HB)).wide (Nat.le_refl _) (by rw [←uh HGL];omega)
end R11
namespace R11
open Go.RowKit Runs
attribute [local go_sem ↓] wp_at_zero wp_at_succ
def x7q (p:Prop) (w:World) (e:Ending) (w':World):Prop:=∃r q,e=.returned (.bool r)∧(r=true↔p)∧w'=w.drewN q
theorem z2e (u:List Nat) (a0:Option Addr) (cap:Nat) (w:World) (hc:BytesIn w a0 u) (hn:u.length≤1048576) :
  Calls Tryz.prog 113 #[.slice a0 u.length cap] w fun e w'=>x7q (Up u) w e w':=by
 have HC:=qz hc
 obtain ⟨n,hN⟩:∃n,n=u.length:=⟨_,rfl⟩
 have HN:=qz hN
 rw [←hN] at hn ⊢
 clear hN hc
 go_enter Tryz.func113,Tryz.ntmps113
 go_wp2_with fail
 go_loopg [3] n (fun gk d ws=>∃ (i q:Nat),gk=n+1-i∧1≤i∧(i≤n∨i=1)∧d=.int .i64 (i:Int)∧Hid (∀j,j+1<i→u.getD j 0<u.getD (j+1) 0)∧ws=w.drewN q)
 case atStart=>exact ⟨1,0,by omega,by omega,.inr rfl,rfl,qz (fun j hj=>by omega),rfl⟩
 case round =>
  obtain ⟨i,q0,rfl,hi1,hi,rfl,HE,rfl⟩:=hrel
  by_cases hlt:i<n
  ·have tl:(i:Int)<(n:Int):=by omega
   obtain ⟨i1,rfl⟩:∃i1,i=i1+1:=⟨i-1,by omega⟩
   obtain ⟨g,off,rfl,c1⟩:=uh HC i1 (by rw [←uh HN];omega)
   obtain ⟨g',off',e1,c2⟩:=uh HC (i1+1) (by rw [←uh HN];exact hlt)
   cases e1
   have d1:∀q,((w.drewN q0).drewN q).cell? ⟨g,off+i1,none⟩=some (.int .u8 ((u.getD i1 0:Nat):Int)):=fun q=>c1
   have d2:∀q,((w.drewN q0).drewN q).cell? ⟨g,off+(i1+1),none⟩=some (.int .u8 ((u.getD (i1+1) 0:Nat):Int)):=fun q=>c2
   have fw:IntKind.i64.wrap (i1:Int)=(i1:Int):=by rw [IntKind.wrap_i64];omega
   have tl1:(i1:Int)<(n:Int):=by omega
   obtain ⟨W6,hW6⟩:∃W6,W6=w.drewN q0:=⟨_,rfl⟩
   have HW6:=qz hW6
   rw [←hW6] at d1 d2 ⊢
   obtain ⟨x,hx⟩:∃x,x=u.getD i1 0:=⟨_,rfl⟩
   obtain ⟨y,hy⟩:∃y,y=u.getD (i1+1) 0:=⟨_,rfl⟩
   rw [←hx] at d1
   rw [←hy] at d2
   have HX:=qz hx
   have HY:=qz hy
   clear c1 c2 hW6 hx hy
   by_cases hxy:y≤x
   ·have f1:(y:Int)≤(x:Int):=by omega
    have f2:decide ((y:Int)≤(x:Int))=true:=decide_eq_true f1
    go_upto_region 3 with fail
    go_quiet (fail)
    go_wp2_with fail
    go_ret
    refine ⟨false,q0+nq,rfl,⟨fun h=>by simp at h,fun h=>?_⟩,by rw [uh HW6,World.drewN_drewN]⟩
    have:=h i1 (by rw [←uh HN];exact hlt)
    rw [←uh HX,←uh HY] at this
    omega
   ·have f1:¬ (y:Int)≤(x:Int):=by omega
    have f2:decide ((y:Int)≤(x:Int))=false:=decide_eq_false f1
    go_upto_region 3 with fail
    go_quiet (fail)
    go_wp2_with fail
    go_roundg (n+1-(i1+1+1))
    case measure=>omega
    case rel =>
     refine ⟨i1+1+1,q0+nq,rfl,by omega,by omega,by go_num,qz fun j hj=>?_,by rw [uh HW6,World.drewN_drewN]⟩
     by_cases e:j=i1
     ·rw [e,←uh HX,←uh HY];omega
     ·exact uh HE j (by omega)
  ·have tl:¬ (i:Int)<(n:Int):=by omega
   go_wp2_with fail
   go_ret
   exact ⟨true,q0,rfl,⟨fun _ j hj=>uh HE j (by rw [←uh HN] at hj;omega),fun _=>rfl⟩,rfl⟩
theorem y4p (ps:List Int) (a0:Option Addr) (cap:Nat) (m:Int) (w:World) (hc:IntsIn w a0 ps) (hn:ps.length≤1048576) :
  Calls Tryz.prog 74 #[.slice a0 ps.length cap,.int .i64 m] w fun e w'=>x7q (∀p∈ps,0≤p∧p<m) w e w':=by
 have HC:=qz hc
 obtain ⟨n,hN⟩:∃n,n=ps.length:=⟨_,rfl⟩
 have HN:=qz hN
 rw [←hN] at hn ⊢
 clear hN hc
 go_enter Tryz.func74,Tryz.ntmps74
 go_wp2_with fail
 go_loopg [9] n (fun gk d ws=>∃ (i:Nat),gk=n-i∧i≤n∧d=.int .i64 (i:Int)∧Hid (∀j,j<i→0≤ps.getD j 0∧ps.getD j 0<m)∧ws=w)
 case atStart=>exact ⟨0,by omega,by omega,rfl,qz (fun j hj=>by omega),rfl⟩
 case round =>
  obtain ⟨i,rfl,hi,rfl,HE,rfl⟩:=hrel
  by_cases hlt:i<n
  ·have tl:(i:Int)<(n:Int):=by omega
   have hil:i<ps.length:=by rw [←uh HN];exact hlt
   obtain ⟨g,off,rfl,c1⟩:=uh HC i hil
   have hmem:ps.getD i 0∈ps:=by
    rw [List.getD_eq_getElem?_getD,List.getElem?_eq_getElem hil]
    exact List.getElem_mem hil
   obtain ⟨x,hx⟩:∃x,x=ps.getD i 0:=⟨_,rfl⟩
   rw [←hx] at c1 hmem
   have HX:=qz hx
   have HM:=qz hmem
   clear hx hmem
   by_cases h0:x<0
   ·have f1:decide (x<0)=true:=decide_eq_true h0
    go_wp2_with fail
    go_ret
    refine ⟨false,0,rfl,⟨fun h=>by simp at h,fun h=>?_⟩,rfl⟩
    have:=h x (uh HM)
    omega
   ·have f1:decide (x<0)=false:=decide_eq_false h0
    by_cases hm:m≤x
    ·have f2:decide (m≤x)=true:=decide_eq_true hm
     go_wp2_with fail
     go_ret
     refine ⟨false,0,rfl,⟨fun h=>by simp at h,fun h=>?_⟩,rfl⟩
     have:=h x (uh HM)
     omega
    ·have f2:decide (m≤x)=false:=decide_eq_false hm
     go_wp2_with fail
     go_roundg (n-(i+1))
     case measure=>omega
     case rel =>
      refine ⟨i+1,rfl,by omega,by go_num,qz fun j hj=>?_,rfl⟩
      by_cases e:j=i
      ·rw [e,←uh HX];omega
      ·exact uh HE j (by omega)
  ·obtain rfl:i=n:=by omega
   have tl:¬ (i:Int)<(i:Int):=by omega
   go_wp2_with fail
   go_ret
   refine ⟨true,0,rfl,⟨fun _ p hp=>?_,fun _=>rfl⟩,rfl⟩
   obtain ⟨j,hj,rfl⟩:=List.getElem_of_mem hp
   have:=uh HE j (by rw [uh HN];exact hj)
   rwa [List.getD_eq_getElem?_getD,List.getElem?_eq_getElem hj] at this
end R11
end Go.Proofs.YtljdhaepkhhnlaaGreat
