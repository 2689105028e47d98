/- Texts of one proof, one behind the other: T6RK, T6LastI, T6Shelf, T6Index, T6Seek, T6Match, T6Weigh, T6Each, T6Walk, T6Range, T6Back, T6Mzero. -/
import Derived.Test.YtabeanealkopbaaGreatDbqE
import Derived.Shelf.Bytes.SlIndexWhole
import Derived.Shelf.LaysM
import Derived.Test.YtabeanealkopbaaGreatProg
import Derived.Lib.IndexMore
import Derived.RangeFuncNested
import Derived.RangeFuncBound
import Derived.RangeFuncCalls
import Derived.RangeFuncLeaves
import Derived.Shelf.Abstract
import Derived.Shelf.RegionOpen
import Derived.OwnWalkIn
import Derived.TacticsInMore
import Derived.LoopNIn
import Derived.LoopIn

set_option linter.unusedVariables false
set_option maxRecDepth 100000
set_option maxHeartbeats 24000000
namespace Go.Proofs.YtabeanealkopbaaGreat
namespace T6
open Go.RowKit Go.Lib
attribute [local go_sem ↓] wp_at_zero wp_at_succ
theorem conv_sb {B:Nat} {w:World} {v:Value} {zs:List Nat} (h:ReadsU B w v zs) (hs:∀ z∈zs,z<256) (q:Nat):(convert 22 9 v).run Tryz.prog (w.drewN q)=.ok (.string (sb zs)) (w.drewN q):=conv_reads (h.reads.stays ⟨rfl,rfl,rfl,Nat.le_refl _,fun _ _=>rfl⟩) hs
theorem lastrk_ok (zs ys:List Nat) (b off c b2 off2 c2 B:Nat) (w:World) (hr:ReadsU B w (.slice (some ⟨b,off,none⟩) zs.length c) zs) (hr2:ReadsU B w (.slice (some ⟨b2,off2,none⟩) ys.length c2) ys) (hz:∀ z∈zs,z<256) (hy:∀ z∈ys,z<256)
  (h1:1≤ys.length) (h2:ys.length<zs.length) (hl:zs.length≤140737488355328) (hcap:zs.length≤c) :
  Calls Tryz.prog 151 #[.slice (some ⟨b,off,none⟩) zs.length c,.slice (some ⟨b2,off2,none⟩) ys.length c2] w fun e w'=>∃ r:Int,e=.returned (.int .i64 r)∧LastIs zs ys (zs.length - ys.length+1) r∧∃ q,w'=w.drewN q:=by
 obtain ⟨_,_,e1,hB1⟩:=sb_bytes hr hz (by omega)
 injection e1 with e1
 injection e1 with e1 e1'
 subst e1 e1'
 obtain ⟨_,_,e2,hB2⟩:=sb_bytes hr2 hy (by omega)
 injection e2 with e2
 injection e2 with e2 e2'
 subst e2 e2'
 have HC:=qz (hashrev_ok b2 off2 c2 (sb ys) (by rw [sb_size];omega) w hB2)
 rw [sb_size] at HC
 obtain ⟨hh,Hh⟩:∃ hh:Int,hh=RK.H (sb ys).data.toList.reverse % 4294967296:=⟨_,rfl⟩
 obtain ⟨pw,Hp⟩:∃ pw:Int,pw=16777619 ^ ys.length % 4294967296:=⟨_,rfl⟩
 rw [← Hh,← Hp] at HC
 have HH:=qz Hh
 have HP:=qz Hp
 have HBY:=qz hB1
 have hcy:=conv_sb hr2 hy
 have HRS:=qz hr
 have HZ:=qz hz
 have HY:=qz hy
 have HSB:=qz (sb_size zs)
 obtain ⟨n,hn⟩:∃ n,n=zs.length:=⟨_,rfl⟩
 obtain ⟨m,hm⟩:∃ m,m=ys.length:=⟨_,rfl⟩
 rw [← hn] at h2 hl hcap HRS HSB ⊢
 rw [← hm] at h1 h2 HC HP hcy ⊢
 have HN:=qz hn
 have HM:=qz hm
 obtain ⟨last,hlast⟩:∃ last:Nat,(n:Int) - (m:Int)=(last:Int):=⟨n - m,by omega⟩
 have hlm:last+m=n:=by omega
 have HLM:=qz hlm
 rw [show n - m+1=last+1 by omega]
 have hlast0:0<last:=by omega
 clear hn hm hB1 hB2 hr hr2 hz hy Hh Hp hlm
 -- at a place: the strings are one just where the piece stands
 have HEQ:Hid (∀ j,j≤last→(Stands zs ys j∧((sb ((zs.drop j).take m)).toList == (sb ys).toList)=true)∨(¬ Stands zs ys j∧((sb ((zs.drop j).take m)).toList == (sb ys).toList)=false)):=qz fun j hj=>by
  have hjl:j+ys.length≤zs.length:=by rw [← uh HM,← uh HN];have:=uh HLM;omega
  have hs:=stands_sub (ys:=ys) hjl
  by_cases h:Stands zs ys j
  ·refine .inl ⟨h,?_⟩
   rw [uh HM,hs.1 h]
   simp
  ·refine .inr ⟨h,?_⟩
   have:(sb ((zs.drop j).take m)).toList≠(sb ys).toList:=fun e=>h (hs.2 (by
    rw [← uh HM]
    refine sb_inj (fun z hz=>uh HZ z (List.mem_of_mem_drop (List.mem_of_mem_take hz))) (uh HY) ?_
    rw [ByteArray.toList_eq,ByteArray.toList_eq] at e
    apply ByteArray.ext
    exact Array.toList_inj.1 e))
   simpa using this
 have HCV:Hid (∀ j,j≤last→0<m→∀ cc,m≤cc→∀ q,(convert 22 9 (.slice (some ⟨b,off+j,none⟩) m cc)).run Tryz.prog (w.drewN q)=.ok (.string (sb ((zs.drop j).take m))) (w.drewN q)):=qz fun j hj h0 cc hcc q=>by
  have h3:=uh HRS
  rw [uh HN] at h3
  exact conv_sb (h3.sub rfl j m cc (by rw [← uh HN];have:=uh HLM;omega) hcc) (fun z hz=>uh HZ z (List.mem_of_mem_drop (List.mem_of_mem_take hz))) q
 have HNOH:Hid (∀ j g,j≤last→g=RK.H (RK.win (sb zs).data.toList j m).reverse % 4294967296→¬ g=hh→¬ Stands zs ys j):=qz fun j g hj hg hne hs=>hne (by
  have:=stands_hash (ys:=ys) (by rw [← uh HM,← uh HN];have:=uh HLM;omega) hs
  rw [uh HM] at hg
  rw [hg,uh HH,this])
 go_enter Tryz.func151,Tryz.ntmps151
 go_upto_region 2 with (go_at_call 165;go_must (refine (uh HC).mono ?_;rintro e w' ⟨rfl,hww⟩;replace hww:=hww.symm;subst hww))
 clear HC
 go_wp2_with fail
 go_loopg [9,10] n (fun gk vh vi ws=>∃ (k:Nat) (h:Int),k=gk∧last≤k∧k≤n∧vi=.int .i64 ((k:Int) - 1)∧vh=.int .u32 h∧Hid (h=RK.H ((sb zs).data.toList.drop k).reverse % 4294967296)∧w=ws)
 case atStart=>exact ⟨n,0,rfl,by omega,Nat.le_refl _,rfl,rfl,qz (by rw [List.drop_of_length_le (by rw [← uh HSB];simp)];rfl),rfl⟩
 case round =>
  obtain ⟨k,h,rfl,hk1,hk,rfl,rfl,hk2,rfl⟩:=hrel
  by_cases hgo:last<k
  ·obtain ⟨K,hK⟩:∃ K:Nat,(k:Int) - 1=(K:Int):=⟨k - 1,by omega⟩
   have hK0:K<(sb zs).size:=by rw [uh HSB];omega
   have c1:=uh HBY K hK0
   have HST:=qz (rev_step (sb zs) K hK0 (h:=h) (by have:=uh hk2;rw [show k=K+1 by omega] at this;exact this))
   have hKn:K<n:=by omega
   have hlK:(last:Int)≤(K:Int):=by omega
   have hlK2:last≤K:=by omega
   have hKk:K<k:=by omega
   clear hk2
   go_wp2_with fail
   go_roundg K
   case measure=>omega
   case rel=>exact ⟨K,_,rfl,by omega,by omega,rfl,rfl,HST,rfl⟩
  ·have hkl:k=last:=by omega
   have hni:¬ (last:Int)≤(k:Int) - 1:=by omega
   have HW:Hid (h=RK.H (RK.win (sb zs).data.toList last m).reverse % 4294967296):=qz (by
    have:=uh hk2
    rw [hkl] at this
    rwa [show (sb zs).data.toList.drop last=RK.win (sb zs).data.toList last m from (List.take_of_length_le (by rw [List.length_drop,sb_list,List.length_map,← uh HN];have:=uh HLM;omega)).symm] at this)
   clear hk2
   have hcl:=uh HCV last (Nat.le_refl _) (by omega) (c - last) (by have:=uh HLM;omega)
   have HEL:=uh HEQ last (Nat.le_refl _)
   have hnl:n - last=m:=by have:=uh HLM;omega
   have hlc:¬ c - last=0:=by have:=uh HLM;omega
   have hlc2:last≤n:=by have:=uh HLM;omega
   rcases HEL with ⟨hst,hbe⟩ | ⟨hst,hbe⟩
   ·have ehh:h=hh:=by
     refine Classical.byContradiction fun hne=>?_
     exact uh HNOH last h (Nat.le_refl _) (uh HW) hne hst
    have ehb:(h == hh)=true:=by simp [ehh]
    have HE:=qz (LastIs.hit hst)
    clear hst HW ehh
    go_wp2_with fail
    go_quiet (fail)
    go_wp2_with fail
    go_ret
    exact ⟨_,rfl,uh HE,nq,rfl⟩
   ·have HNS:=qz hst
    by_cases ehh:h=hh
    ·have ehb:(h == hh)=true:=by simp [ehh]
     clear hst ehh
     go_wp2_with fail
     go_quiet (fail)
     go_wp2_with fail
     go_loopg [9,11] last (fun gk vh vi ws=>∃ (j q:Nat) (g:Int),j=gk∧j≤last∧vi=.int .i64 ((j:Int) - 1)∧vh=.int .u32 g∧Hid (g=RK.H (RK.win (sb zs).data.toList j m).reverse % 4294967296)∧Hid (∀ i,j≤i→i≤last→¬ Stands zs ys i)∧ws=w.drewN q)
     case atStart=>exact ⟨last,_,_,rfl,Nat.le_refl _,rfl,rfl,HW,qz fun i a b=>by (obtain rfl:i=last:=by omega);exact uh HNS,rfl⟩
     case round =>
      obtain ⟨j,q,g,rfl,hj,rfl,rfl,hg,hno,rfl⟩:=hrel
      by_cases hj1:1≤j
      ·obtain ⟨J,hJ⟩:∃ J:Nat,(j:Int) - 1=(J:Int):=⟨j - 1,by omega⟩
       obtain ⟨JM,hJM⟩:∃ JM:Nat,(J:Int)+(m:Int)=(JM:Int):=⟨J+m,by omega⟩
       have hJn:J<n:=by have:=uh HLM;omega
       have hJMn:JM<n:=by have:=uh HLM;omega
       have hJ0:J<(sb zs).size:=by rw [uh HSB];omega
       have hJM0:J+m<(sb zs).size:=by rw [uh HSB];omega
       have c1:=uh HBY J hJ0
       have d2:=uh HBY (J+m) hJM0
       have HROLL:=qz (LastIndex.rollrev_step (sb zs) m J h1 (by rw [uh HSB];omega) (h:=g) (by have:=uh hg;rw [show j=J+1 by omega] at this;exact this) (uh HP))
       obtain ⟨x1,hx1⟩:∃ x,x=((sb zs)[J]).toNat:=⟨_,rfl⟩
       obtain ⟨x2,hx2⟩:∃ x,x=((sb zs)[J+m]).toNat:=⟨_,rfl⟩
       rw [← hx1] at c1 HROLL
       rw [← hx2] at d2 HROLL
       rw [show off+(J+m)=off+JM by omega] at d2
       have hjJ:j=J+1:=by omega
       have HJJ:=qz hjJ
       have hJj:J<j:=by omega
       have hJl:J≤last:=by omega
       have hcJ:=uh HCV J hJl (by omega) (c - J) (by have:=uh HLM;omega)
       have HEJ:=qz (uh HEQ J hJl)
       have hJc:¬ c - J=0:=by have:=uh HLM;omega
       have hJM1:JM≤c:=by omega
       have hJMJ:JM - J=m:=by omega
       clear hg hx1 hx2 hjJ
       go_upto_region 17 with fail
       obtain ⟨g2,hg2⟩:∃ g2:Int,g2=(((g*16777619+(x1:Int)) % 4294967296 - pw*((x2:Int) % 4294967296) % 4294967296) % 4294967296):=⟨_,rfl⟩
       rw [← hg2]
       have HW2:Hid (g2=RK.H (RK.win (sb zs).data.toList J m).reverse % 4294967296):=qz (by rw [hg2,← Int.sub_emod];exact uh HROLL)
       clear hg2 HROLL c1 d2
       rcases uh HEJ with ⟨hstJ,hbJ⟩ | ⟨hstJ,hbJ⟩
       ·have ehh2:g2=hh:=by
         refine Classical.byContradiction fun hne=>?_
         exact uh HNOH J g2 hJl (uh HW2) hne hstJ
        have ehb2:(g2 == hh)=true:=by simp [ehh2]
        have HE:Hid (LastIs zs ys (last+1) (J:Int)):=qz ((LastIs.hit hstJ).up (by omega) (fun i a b=>uh hno i (by have:=uh HJJ;omega) (by omega)))
        clear hstJ HW2 ehh2 hno
        go_quiet (fail)
        go_wp2_with fail
        go_ret
        exact ⟨_,rfl,by rw [hJ];exact uh HE,q+nq,by first | rfl | (rw [World.drewN_drewN])⟩
       ·have HNO2:Hid (∀ i,J≤i→i≤last→¬ Stands zs ys i):=qz fun i a b=>by
         by_cases e:i=J
         ·subst e;exact hstJ
         ·exact uh hno i (by have:=uh HJJ;omega) b
        by_cases ehh2:g2=hh
        ·have ehb2:(g2 == hh)=true:=by simp [ehh2]
         clear hstJ ehh2 hno
         go_quiet (fail)
         go_wp2_with fail
         go_roundg J
         case measure=>omega
         case rel=>exact ⟨J,q+nq,_,rfl,by omega,rfl,rfl,HW2,HNO2,by first | rfl | (rw [World.drewN_drewN])⟩
        ·have ehb2:(g2 == hh)=false:=by simp [ehh2]
         clear hstJ ehh2 hno
         go_quiet (fail)
         go_wp2_with fail
         go_roundg J
         case measure=>omega
         case rel=>exact ⟨J,q+nq,_,rfl,by omega,rfl,rfl,HW2,HNO2,by first | rfl | (rw [World.drewN_drewN])⟩
      ·obtain rfl:j=0:=by omega
       have HE:Hid (LastIs zs ys (last+1) (-1)):=qz (.inl ⟨rfl,fun i hi=>uh hno i (Nat.zero_le _) (by omega)⟩)
       clear hno hg
       go_wp2_with fail
       go_ret
       exact ⟨_,rfl,uh HE,q,rfl⟩
    ·have ehb:(h == hh)=false:=by simp [ehh]
     clear hst ehh
     go_wp2_with fail
     go_quiet (fail)
     go_wp2_with fail
     go_loopg [9,11] last (fun gk vh vi ws=>∃ (j q:Nat) (g:Int),j=gk∧j≤last∧vi=.int .i64 ((j:Int) - 1)∧vh=.int .u32 g∧Hid (g=RK.H (RK.win (sb zs).data.toList j m).reverse % 4294967296)∧Hid (∀ i,j≤i→i≤last→¬ Stands zs ys i)∧ws=w.drewN q)
     case atStart=>exact ⟨last,_,_,rfl,Nat.le_refl _,rfl,rfl,HW,qz fun i a b=>by (obtain rfl:i=last:=by omega);exact uh HNS,rfl⟩
     case round =>
      obtain ⟨j,q,g,rfl,hj,rfl,rfl,hg,hno,rfl⟩:=hrel
      by_cases hj1:1≤j
      ·obtain ⟨J,hJ⟩:∃ J:Nat,(j:Int) - 1=(J:Int):=⟨j - 1,by omega⟩
       obtain ⟨JM,hJM⟩:∃ JM:Nat,(J:Int)+(m:Int)=(JM:Int):=⟨J+m,by omega⟩
       have hJn:J<n:=by have:=uh HLM;omega
       have hJMn:JM<n:=by have:=uh HLM;omega
       have hJ0:J<(sb zs).size:=by rw [uh HSB];omega
       have hJM0:J+m<(sb zs).size:=by rw [uh HSB];omega
       have c1:=uh HBY J hJ0
       have d2:=uh HBY (J+m) hJM0
       have HROLL:=qz (LastIndex.rollrev_step (sb zs) m J h1 (by rw [uh HSB];omega) (h:=g) (by have:=uh hg;rw [show j=J+1 by omega] at this;exact this) (uh HP))
       obtain ⟨x1,hx1⟩:∃ x,x=((sb zs)[J]).toNat:=⟨_,rfl⟩
       obtain ⟨x2,hx2⟩:∃ x,x=((sb zs)[J+m]).toNat:=⟨_,rfl⟩
       rw [← hx1] at c1 HROLL
       rw [← hx2] at d2 HROLL
       rw [show off+(J+m)=off+JM by omega] at d2
       have hjJ:j=J+1:=by omega
       have HJJ:=qz hjJ
       have hJj:J<j:=by omega
       have hJl:J≤last:=by omega
       have hcJ:=uh HCV J hJl (by omega) (c - J) (by have:=uh HLM;omega)
       have HEJ:=qz (uh HEQ J hJl)
       have hJc:¬ c - J=0:=by have:=uh HLM;omega
       have hJM1:JM≤c:=by omega
       have hJMJ:JM - J=m:=by omega
       clear hg hx1 hx2 hjJ
       go_upto_region 17 with fail
       obtain ⟨g2,hg2⟩:∃ g2:Int,g2=(((g*16777619+(x1:Int)) % 4294967296 - pw*((x2:Int) % 4294967296) % 4294967296) % 4294967296):=⟨_,rfl⟩
       rw [← hg2]
       have HW2:Hid (g2=RK.H (RK.win (sb zs).data.toList J m).reverse % 4294967296):=qz (by rw [hg2,← Int.sub_emod];exact uh HROLL)
       clear hg2 HROLL c1 d2
       rcases uh HEJ with ⟨hstJ,hbJ⟩ | ⟨hstJ,hbJ⟩
       ·have ehh2:g2=hh:=by
         refine Classical.byContradiction fun hne=>?_
         exact uh HNOH J g2 hJl (uh HW2) hne hstJ
        have ehb2:(g2 == hh)=true:=by simp [ehh2]
        have HE:Hid (LastIs zs ys (last+1) (J:Int)):=qz ((LastIs.hit hstJ).up (by omega) (fun i a b=>uh hno i (by have:=uh HJJ;omega) (by omega)))
        clear hstJ HW2 ehh2 hno
        go_quiet (fail)
        go_wp2_with fail
        go_ret
        exact ⟨_,rfl,by rw [hJ];exact uh HE,q+nq,by first | rfl | (rw [World.drewN_drewN])⟩
       ·have HNO2:Hid (∀ i,J≤i→i≤last→¬ Stands zs ys i):=qz fun i a b=>by
         by_cases e:i=J
         ·subst e;exact hstJ
         ·exact uh hno i (by have:=uh HJJ;omega) b
        by_cases ehh2:g2=hh
        ·have ehb2:(g2 == hh)=true:=by simp [ehh2]
         clear hstJ ehh2 hno
         go_quiet (fail)
         go_wp2_with fail
         go_roundg J
         case measure=>omega
         case rel=>exact ⟨J,q+nq,_,rfl,by omega,rfl,rfl,HW2,HNO2,by first | rfl | (rw [World.drewN_drewN])⟩
        ·have ehb2:(g2 == hh)=false:=by simp [ehh2]
         clear hstJ ehh2 hno
         go_quiet (fail)
         go_wp2_with fail
         go_roundg J
         case measure=>omega
         case rel=>exact ⟨J,q+nq,_,rfl,by omega,rfl,rfl,HW2,HNO2,by first | rfl | (rw [World.drewN_drewN])⟩
      ·obtain rfl:j=0:=by omega
       have HE:Hid (LastIs zs ys (last+1) (-1)):=qz (.inl ⟨rfl,fun i hi=>uh hno i (Nat.zero_le _) (by omega)⟩)
       clear hno hg
       go_wp2_with fail
       go_ret
       exact ⟨_,rfl,uh HE,q,rfl⟩
end T6
namespace T6
open Go.RowKit Go.Lib
attribute [local go_sem ↓] wp_at_zero wp_at_succ
theorem equal_ok (zs ys:List Nat) (v u:Value) (B:Nat) (w:World) (h1:ReadsU B w v zs) (h2:ReadsU B w u ys) (hz:∀ z∈zs,z<256) (hy:∀ z∈ys,z<256) :
  Calls Tryz.prog 146 #[v,u] w fun e w'=>(e=.returned (.bool true)∧zs=ys∨e=.returned (.bool false)∧zs≠ys)∧∃ q,w'=w.drewN q:=by
 have c1:=conv_sb h1 hz
 have c2:=conv_sb h2 hy
 have HI:Hid (sb zs=sb ys→zs=ys):=qz (sb_inj hz hy)
 clear h1 h2 hz hy
 by_cases h:zs=ys
 ·have e1:((sb zs).toList == (sb ys).toList)=true:=by rw [h];simp
  have c1':=c1 0
  have c2':=c2 0
  rw [World.drewN_zero] at c1' c2'
  go_enter Tryz.func146,Tryz.ntmps146
  go_wp2_with fail
  go_ret
  exact ⟨.inl ⟨rfl,h⟩,0,rfl⟩
 ·have e1:((sb zs).toList == (sb ys).toList)=false:=by
   have:(sb zs).toList≠(sb ys).toList:=fun e=>h (uh HI (by
    rw [ByteArray.toList_eq,ByteArray.toList_eq] at e
    apply ByteArray.ext
    exact Array.toList_inj.1 e))
   simpa using this
  have c1':=c1 0
  have c2':=c2 0
  rw [World.drewN_zero] at c1' c2'
  go_enter Tryz.func146,Tryz.ntmps146
  go_wp2_with fail
  go_ret
  exact ⟨.inr ⟨rfl,h⟩,0,rfl⟩
theorem lasti_ok (zs ys:List Nat) (b off c b2 off2 c2 B:Nat) (w:World) (hr:ReadsU B w (.slice (some ⟨b,off,none⟩) zs.length c) zs) (hr2:ReadsU B w (.slice (some ⟨b2,off2,none⟩) ys.length c2) ys) (hz:∀ z∈zs,z<256) (hy:∀ z∈ys,z<256)
  (h1:1≤ys.length) (h2:ys.length≤zs.length) (hl:zs.length≤140737488355328) (hcap:zs.length≤c) :
  Calls Tryz.prog 124 #[.slice (some ⟨b,off,none⟩) zs.length c,.slice (some ⟨b2,off2,none⟩) ys.length c2] w fun e w'=>∃ r:Int,e=.returned (.int .i64 r)∧LastIs zs ys (zs.length - ys.length+1) r∧∃ q,w'=w.drewN q:=by
 have HE:=qz (equal_ok zs ys _ _ B w hr hr2 hz hy)
 have HRK:Hid (ys.length<zs.length→Calls Tryz.prog 151 #[.slice (some ⟨b,off,none⟩) zs.length c,.slice (some ⟨b2,off2,none⟩) ys.length c2] w fun e w'=>∃ r:Int,e=.returned (.int .i64 r)∧LastIs zs ys (zs.length - ys.length+1) r∧∃ q,w'=w.drewN q):=qz fun h=>lastrk_ok zs ys b off c b2 off2 c2 B w hr hr2 hz hy h1 h hl hcap
 have HLB:=qz fun x=>lastbyte_ok zs (some ⟨b,off,none⟩) c B x w hr hl
 have k1:w.cell? ⟨b2,off2,none⟩=some (.int .u8 (ys.getD 0 0:Int)):=by
  obtain ⟨a',c',e,_,hs⟩:=hr2
  injection e with e1 e2 e3
  subst e1
  obtain ⟨_,_,e,_,hc⟩:=hs (by omega)
  injection e with e
  injection e with e1 e2
  subst e1 e2
  have:=hc 0 (by omega)
  rw [Nat.add_zero] at this
  exact this
 have HONE:Hid (ys.length=1→ys=[ys.getD 0 0]):=qz fun h=>by
  obtain ⟨x,rfl⟩:=List.length_eq_one_iff.1 h
  rfl
 have HST:Hid (ys.length=zs.length→(Stands zs ys 0↔zs=ys)):=qz fun h=>by
  rw [stands_sub (by omega),List.drop_zero,List.take_of_length_le (by omega)]
 clear hr hr2 hz hy
 obtain ⟨n,hn⟩:∃ n,n=zs.length:=⟨_,rfl⟩
 obtain ⟨m,hm⟩:∃ m,m=ys.length:=⟨_,rfl⟩
 rw [← hn] at HE HRK HLB HST h2 hl hcap ⊢
 rw [← hm] at HE HRK HST HONE h1 h2 ⊢
 clear hn hm
 have hm0:((m:Int) == 0)=false:=by simp;omega
 obtain ⟨y,hy⟩:∃ y,y=ys.getD 0 0:=⟨_,rfl⟩
 rw [← hy] at k1 HONE
 clear hy
 by_cases hm1:m=1
 ·subst hm1
  have HLY:=qz (uh HLB y)
  have hys:=uh HONE rfl
  have HYS:=qz hys
  clear HLB HRK HE hys
  go_enter Tryz.func124,Tryz.ntmps124
  go_wp2_with (go_at_call 150;go_must (refine (uh HLY).mono ?_;rintro e w' ⟨r,rfl,hr,hww⟩;replace hww:=hww.symm;subst hww;have HR2:=qz hr;clear hr))
  go_ret
  exact ⟨r,rfl,by rw [uh HYS,show n - 1+1=n by omega];exact uh HR2,0,rfl⟩
 ·have e1:((m:Int) == 1)=false:=by simp;omega
  by_cases hmn:m=n
  ·subst hmn
   have e2:((m:Int) == (m:Int))=true:=by simp
   have HS0:=qz (uh HST rfl)
   clear HLB HRK
   go_enter Tryz.func124,Tryz.ntmps124
   go_wp2_with fail
   refine (uh HE).mono ?_
   rintro e w' ⟨⟨rfl,heq⟩ | ⟨rfl,heq⟩,q,rfl⟩
   ·have HF:Hid (LastIs zs ys (m - m+1) 0):=qz (by rw [Nat.sub_self];exact LastIs.hit ((uh HS0).2 heq))
    go_wp2_with fail
    go_ret
    exact ⟨_,rfl,uh HF,q,rfl⟩
   ·have HF:Hid (LastIs zs ys (m - m+1) (-1)):=qz (.inl ⟨rfl,fun j hj h=>by
     obtain rfl:j=0:=by omega
     exact heq ((uh HS0).1 h)⟩)
    go_wp2_with fail
    go_ret
    exact ⟨_,rfl,uh HF,q,rfl⟩
  ·have e2:((m:Int) == (n:Int))=false:=by simp;omega
   have e2':(m == n)=false:=by simp [hmn]
   have e3:¬ (n:Int)<(m:Int):=by omega
   have HC:=qz (uh HRK (by omega))
   clear HLB HRK HE
   go_enter Tryz.func124,Tryz.ntmps124
   go_wp2_with fail
   refine (uh HC).mono ?_
   rintro e w' ⟨r,rfl,hr,q,rfl⟩
   have HR2:=qz hr
   clear hr
   go_wp2_with fail
   go_ret
   exact ⟨r,rfl,uh HR2,q,rfl⟩
end T6
end Go.Proofs.YtabeanealkopbaaGreat
section
namespace Go.Proofs
open Go.Shelf
def Tryz.laysM185_ren:Go.Shelf.Ren:=⟨fun | 185=>122 | 187=>145 | 115=>146 | 253=>147 | 224=>148 | 254=>149 | 255=>163 | 291=>164 | n=>n,fun | 37=>22 | 3=>3 | 4=>4 | 0=>0 | 5=>5 | 46=>91 | 9=>9 | 146=>156 | 51=>128 | n=>n,fun | 1=>0 | n=>n⟩
theorem Tryz.laysM185:Go.Proofs.LaysM.n185 Tryz.prog Tryz.laysM185_ren:={
 mixed:=by kernel_rfl
 f115:=Tryz.func146.trans (congrArg some (by kernel_rfl))
 f185:=Tryz.func122.trans (congrArg some (by kernel_rfl))
 f187:=Tryz.func145.trans (congrArg some (by kernel_rfl))
 f224:=Tryz.func148.trans (congrArg some (by kernel_rfl))
 f253:=Tryz.func147.trans (congrArg some (by kernel_rfl))
 f254:=Tryz.func149.trans (congrArg some (by kernel_rfl))
 f255:=Tryz.func163.trans (congrArg some (by kernel_rfl))
 f291:=Tryz.func164.trans (congrArg some (by kernel_rfl))
 t0:=Tryz.underlying0
 a0:=Tryz.isAgg0
 z0:=Tryz.sizeOf0
 v0:=Tryz.zeroValue0
 t3:=Tryz.underlying3
 a3:=Tryz.isAgg3
 z3:=Tryz.sizeOf3
 v3:=Tryz.zeroValue3
 t4:=Tryz.underlying4
 a4:=Tryz.isAgg4
 z4:=Tryz.sizeOf4
 v4:=Tryz.zeroValue4
 t5:=Tryz.underlying5
 a5:=Tryz.isAgg5
 z5:=Tryz.sizeOf5
 v5:=Tryz.zeroValue5
 t9:=Tryz.underlying9
 a9:=Tryz.isAgg9
 z9:=Tryz.sizeOf9
 v9:=Tryz.zeroValue9
 t37:=Tryz.underlying22
 a37:=Tryz.isAgg22
 z37:=Tryz.sizeOf22
 v37:=Tryz.zeroValue22
 t46:=Tryz.underlying91
 a46:=Tryz.isAgg91
 z46:=Tryz.sizeOf91
 v46:=Tryz.zeroValue91
 t51:=Tryz.underlying128
 a51:=Tryz.isAgg128
 z51:=Tryz.sizeOf128
 v51:=Tryz.zeroValue128
 t146:=Tryz.underlying156
 a146:=Tryz.isAgg156
 z146:=Tryz.sizeOf156
 v146:=Tryz.zeroValue156
 g1:=by kernel_rfl
 i0:=by kernel_rfl
 i3:=by kernel_rfl
 i4:=by kernel_rfl
 i5:=by kernel_rfl
 i9:=by kernel_rfl
 i37:=by kernel_rfl
 i46:=by kernel_rfl
 i51:=by kernel_rfl
 i146:=by kernel_rfl
 m1:=by kernel_rfl
 s1_3:=fun w h=>Go.Proofs.cell_of_shapedOpen_int (zero:=#[.int .i64 0]) (t:=3) h (of_decide_eq_true (by kernel_rfl)) (by kernel_rfl) rfl (by kernel_rfl) (by kernel_rfl) Tryz.underlying3 }
end Go.Proofs
end
namespace Go.Proofs.YtabeanealkopbaaGreat
namespace T6
open Go.RowKit Go.Lib
def ML (w:World):Prop:=∃ m:Int,w.cell? ⟨0,0,none⟩=some (.int .i64 m)
theorem ML.stays {w w1:World} (hb:Below w.heap.size w w1) (h:ML w):ML w1:=by
 obtain ⟨m,h⟩:=h
 exact ⟨m,cell_stays hb h⟩
theorem ML.drewN {w:World} (q:Nat) (h:ML w):ML (w.drewN q):=h
def FirstIs (zs ys:List Nat) (r:Int):Prop:=(r = -1∧∀ j,j+ys.length≤zs.length→¬ Stands zs ys j)∨∃ j:Nat,r=(j:Int)∧j+ys.length≤zs.length∧Stands zs ys j∧∀ j',j'<j→¬ Stands zs ys j'
theorem occ_stands {zs ys:List Nat} (hz:∀ z∈zs,z<256) (hy:∀ z∈ys,z<256) {j:Nat} (hj:j+ys.length≤zs.length):occAt (zs.map UInt8.ofNat) (ys.map UInt8.ofNat) j=true↔Stands zs ys j:=by
 rw [RK.occAt_win _ _ _ (by simpa using hj),stands_sub hj]
 unfold RK.win
 rw [List.length_map,← List.map_drop,← List.map_take]
 constructor
 ·intro h
  have h1:((zs.drop j).take ys.length).map UInt8.ofNat=ys.map UInt8.ofNat:=by simpa using h
  refine sb_inj (fun z hz'=>hz z (List.mem_of_mem_drop (List.mem_of_mem_take hz'))) hy ?_
  unfold sb
  rw [h1]
 ·intro h
  rw [h]
  simp
theorem occ_short {s sub:List UInt8} {j:Nat} (h:occAt s sub j=true):sub.length≤s.length - j:=by
 unfold occAt at h
 have:=List.isPrefixOf_iff_prefix.1 h
 have:=this.length_le
 simpa using this
theorem first_of {zs ys:List Nat} (hz:∀ z∈zs,z<256) (hy:∀ z∈ys,z<256) (h1:1≤ys.length):FirstIs zs ys (index (zs.map UInt8.ofNat) (ys.map UInt8.ofNat)):=by
 rcases index_spec (zs.map UInt8.ofNat) (ys.map UInt8.ofNat) with ⟨e,hn⟩ | ⟨i,e,hi,ho,hno⟩
 ·refine .inl ⟨e,fun j hj hs=>?_⟩
  have:=hn j (by simp;omega)
  rw [(occ_stands hz hy hj).2 hs] at this
  cases this
 ·have hl:=occ_short ho
  simp at hl hi
  have hil:i+ys.length≤zs.length:=by omega
  refine .inr ⟨i,e,hil,(occ_stands hz hy hil).1 ho,fun j' hj hs=>?_⟩
  have:=hno j' hj
  rw [(occ_stands hz hy (by omega)).2 hs] at this
  cases this
theorem bytesOf_nats (zs:List Nat):bytesOf (zs.map Int.ofNat)=zs.map UInt8.ofNat:=by
 unfold bytesOf
 rw [List.map_map]
 rfl
theorem index_ok (zs ys:List Nat) (b off c b2 off2 c2 B:Nat) (w:World) (hr:ReadsU B w (.slice (some ⟨b,off,none⟩) zs.length c) zs) (hr2:ReadsU B w (.slice (some ⟨b2,off2,none⟩) ys.length c2) ys) (hz:∀ z∈zs,z<256) (hy:∀ z∈ys,z<256)
  (h1:1≤ys.length) (hl:zs.length<4294967281) (hly:ys.length≤140737488355328) (hcap:zs.length≤c) (hm:ML w) :
  Calls Tryz.prog 122 #[.slice (some ⟨b,off,none⟩) zs.length c,.slice (some ⟨b2,off2,none⟩) ys.length c2] w fun e w'=>∃ r:Int,e=.returned (.int .i64 r)∧FirstIs zs ys r∧∃ q,w'=w.drewN q:=by
 obtain ⟨m,hm⟩:=hm
 have hcell:∀ {zs:List Nat} {b off c:Nat},ReadsU B w (.slice (some ⟨b,off,none⟩) zs.length c) zs→∀ i,i<zs.length→w.cell? ((⟨b,off,none⟩:Addr).add i)=some (.int .u8 ((zs.map Int.ofNat).getD i 0)):=fun {zs b off c} h i hi=>by
  obtain ⟨a',c',e,_,hs⟩:=h
  injection e with e1 e2 e3
  subst e1
  obtain ⟨_,_,e,_,hc⟩:=hs (by omega)
  injection e with e
  injection e with e1 e2
  subst e1 e2
  have ea:(⟨b,off,none⟩:Addr).add i=⟨b,off+i,none⟩:=by by_cases hq:i=0 <;> simp [Addr.add,hq]
  rw [ea,hc i hi]
  simp [hi]
 have hr':∀ {zs:List Nat},(∀ z∈zs,z<256)→∀ x∈zs.map Int.ofNat,0≤x∧x<256:=fun {zs} h x hx=>by
  obtain ⟨z,hz,rfl⟩:=List.mem_map.1 hx
  have:=h z hz
  simp
  omega
 refine (Any.bytes_Index_at { Tryz.laysM185 with } ⟨b,off,none⟩ ⟨b2,off2,none⟩ zs.length c ys.length c2 (zs.map Int.ofNat) (ys.map Int.ofNat) m w (by simp) (by simp) (hr' hz) (hr' hy) (hcell hr) (hcell hr2) hcap hl (by omega) hm).mono ?_
 rintro e w' ⟨rfl,hq⟩
 refine ⟨_,rfl,?_,hq⟩
 rw [bytesOf_nats,bytesOf_nats]
 exact first_of hz hy h1
end T6
namespace T6
open Go.RowKit Go.Lib
attribute [local go_sem ↓] wp_at_zero wp_at_succ
theorem LastIs.has (zs ys:List Nat):∀ k,∃ r,LastIs zs ys k r
 | 0=>⟨-1,.inl ⟨rfl,fun j h=>by omega⟩⟩
 | k+1=>by
  by_cases h:Stands zs ys k
  ·exact ⟨_,LastIs.hit h⟩
  ·obtain ⟨r,hr⟩:=LastIs.has zs ys k
   exact ⟨r,hr.step h⟩
theorem LastIs.eq {zs ys:List Nat} {k:Nat} {r r':Int} (h:LastIs zs ys k r) (h':LastIs zs ys k r'):r=r':=by
 rcases h with ⟨e,h1⟩ | ⟨j,e,h1,h2,h3⟩ <;> rcases h' with ⟨e',k1⟩ | ⟨j',e',k1,k2,k3⟩
 ·omega
 ·exact absurd k2 (h1 j' k1)
 ·exact absurd h2 (k1 j h1)
 ·rcases Nat.lt_trichotomy j j' with hl | hl | hl
  ·exact absurd k2 (h3 j' hl k1)
  ·omega
  ·exact absurd h2 (k3 j hl h1)
theorem ReadsU.drewN {B:Nat} {w:World} {v:Value} {zs:List Nat} (h:ReadsU B w v zs) (q:Nat):ReadsU B (w.drewN q) v zs:=h.stays ⟨rfl,rfl,rfl,Nat.le_refl _,fun _ _=>rfl⟩
theorem lasti_det (zs ys:List Nat) (b off c b2 off2 c2 B:Nat) (w:World) (hr:ReadsU B w (.slice (some ⟨b,off,none⟩) zs.length c) zs) (hr2:ReadsU B w (.slice (some ⟨b2,off2,none⟩) ys.length c2) ys) (hz:∀ z∈zs,z<256) (hy:∀ z∈ys,z<256)
  (h1:1≤ys.length) (h2:ys.length≤zs.length) (hl:zs.length≤140737488355328) (hcap:zs.length≤c) :
  ∃ r:Int,LastIs zs ys (zs.length - ys.length+1) r∧∀ q,Calls Tryz.prog 124 #[.slice (some ⟨b,off,none⟩) zs.length c,.slice (some ⟨b2,off2,none⟩) ys.length c2] (w.drewN q) fun e w'=>e=.returned (.int .i64 r)∧∃ m,w'=w.drewN m:=by
 obtain ⟨r,hr0⟩:=LastIs.has zs ys (zs.length - ys.length+1)
 refine ⟨r,hr0,fun q=>(lasti_ok zs ys b off c b2 off2 c2 B (w.drewN q) (hr.drewN q) (hr2.drewN q) hz hy h1 h2 hl hcap).mono ?_⟩
 rintro e w' ⟨r',rfl,h,q',rfl⟩
 obtain rfl:=hr0.eq h
 exact ⟨rfl,q+q',by rw [World.drewN_drewN]⟩
theorem FirstIs.eq {zs ys:List Nat} {r r':Int} (h:FirstIs zs ys r) (h':FirstIs zs ys r'):r=r':=by
 rcases h with ⟨e,h1⟩ | ⟨j,e,h1,h2,h3⟩ <;> rcases h' with ⟨e',k1⟩ | ⟨j',e',k1,k2,k3⟩
 ·omega
 ·exact absurd k2 (h1 j' k1)
 ·exact absurd h2 (k1 j h1)
 ·rcases Nat.lt_trichotomy j j' with hl | hl | hl
  ·exact absurd h2 (k3 j hl)
  ·omega
  ·exact absurd k2 (h3 j' hl)
theorem index_det (zs ys:List Nat) (b off c b2 off2 c2 B:Nat) (w:World) (hr:ReadsU B w (.slice (some ⟨b,off,none⟩) zs.length c) zs) (hr2:ReadsU B w (.slice (some ⟨b2,off2,none⟩) ys.length c2) ys) (hz:∀ z∈zs,z<256) (hy:∀ z∈ys,z<256)
  (h1:1≤ys.length) (hl:zs.length<4294967281) (hly:ys.length≤140737488355328) (hcap:zs.length≤c) (hm:ML w) :
  ∃ r:Int,FirstIs zs ys r∧∀ q,Calls Tryz.prog 122 #[.slice (some ⟨b,off,none⟩) zs.length c,.slice (some ⟨b2,off2,none⟩) ys.length c2] (w.drewN q) fun e w'=>e=.returned (.int .i64 r)∧∃ m,w'=w.drewN m:=by
 refine ⟨_,first_of hz hy h1,fun q=>(index_ok zs ys b off c b2 off2 c2 B (w.drewN q) (hr.drewN q) (hr2.drewN q) hz hy h1 hl hly hcap (hm.drewN q)).mono ?_⟩
 rintro e w' ⟨r',rfl,h,q',rfl⟩
 obtain rfl:=(first_of hz hy h1).eq h
 exact ⟨rfl,q+q',by rw [World.drewN_drewN]⟩
structure SeekAt (z:Nat→Nat) (p m n pl:Nat):Prop where
 nle:n≤m
 ple:pl≤p
 has:0<n→∃ x,x<p∧Same z p x n
 no:n<m→∀ x,x<pl→¬ Same z p x (n+1)
theorem SeekAt.start (z:Nat→Nat) (p m:Nat):SeekAt z p m 0 0:=⟨by omega,by omega,fun h=>by omega,fun _ x hx=>by omega⟩
theorem SeekAt.next {z:Nat→Nat} {p m n pl x n':Nat} (h:SeekAt z p m n pl) (hn:n<m) (hx1:pl≤x) (hx2:x<p) (hno:∀ y,pl≤y→y<x→¬ Same z p y (n+1)) (hs:Same z p x n') (hgt:n<n') (hle:n'≤m) (hne:n'<m→¬ Same z p x (n'+1)):SeekAt z p m n' (x+1):=by
 refine ⟨hle,by omega,fun _=>⟨x,hx2,hs⟩,fun hlt y hy=>?_⟩
 by_cases e:y=x
 ·subst e;exact hne hlt
 ·by_cases hl:y<pl
  ·exact fun hc=>h.no hn y hl (hc.mono (by omega))
  ·exact fun hc=>hno y (by omega) (by omega) (hc.mono (by omega))
theorem SeekAt.best {z:Nat→Nat} {p m n pl j:Nat} (h:SeekAt z p m n pl) (hn:1≤n) (hall:n<m→∀ x,x<p→¬ Same z p x (n+1)) (hj:j<p) (hs:Same z p j n) (hlast:∀ x,j<x→x<p→¬ Same z p x n):IsBest z p p m n (p - j):=by
 refine ⟨h.nle,.inr ⟨hn,by omega,by omega,(same_eqs (by omega)).1 hs,fun d' h1 h2 he=>?_⟩,fun hlt d' h1 h2 he=>?_⟩
 ·have e:d'=p - (p - d'):=by omega
  rw [e] at he
  exact hlast (p - d') (by omega) (by omega) ((same_eqs (by omega)).2 he)
 ·have e:d'=p - (p - d'):=by omega
  rw [e] at he
  exact hall hlt (p - d') (by omega) ((same_eqs (by omega)).2 he)
theorem SeekAt.none {z:Nat→Nat} {p m pl:Nat} (h:SeekAt z p m 0 pl) (hall:0<m→∀ x,x<p→¬ Same z p x 1):IsBest z p p m 0 0:=by
 refine ⟨h.nle,.inl ⟨rfl,rfl⟩,fun hlt d' h1 h2 he=>?_⟩
 have e:d'=p - (p - d'):=by omega
 rw [e] at he
 exact hall hlt (p - d') (by omega) ((same_eqs (by omega)).2 he)
theorem stands_same {zs:List Nat} {f l p k j:Nat} (hk:p+k≤zs.length) (hj:j+k≤l):Stands ((zs.drop f).take l) ((zs.drop p).take k) j↔Same (fun i=>zs.getD i 0) p (f+j) k:=by
 have hl:((zs.drop p).take k).length=k:=by simp;omega
 unfold Stands Same
 rw [hl]
 constructor
 ·intro h i hi
  have:=h i hi
  rw [slice_get _ _ _ _ (show j+i<l by omega),slice_get _ _ _ _ hi] at this
  show zs.getD (f+j+i) 0=zs.getD (p+i) 0
  rw [Nat.add_assoc]
  exact this
 ·intro h i hi
  have:zs.getD (f+j+i) 0=zs.getD (p+i) 0:=h i hi
  rw [slice_get _ _ _ _ (show j+i<l by omega),slice_get _ _ _ _ hi,← Nat.add_assoc]
  exact this
theorem seek_loop (zs:List Nat) (b off cap B p:Nat) (w:World) (hr:ReadsU B w (.slice (some ⟨b,off,none⟩) zs.length cap) zs) (hz:∀ z∈zs,z<256) (hp:p<zs.length) (hl:zs.length<4294967281) (hcap:zs.length≤cap) (hm:ML w) :
  Calls Tryz.prog 95 #[.slice (some ⟨b,off,none⟩) zs.length cap,.int .i64 (p:Int)] w fun e w'=>∃ n d:Nat,e=.returned (.tuple #[.int .i64 (n:Int),.int .i64 (d:Int)])∧IsBest (fun i=>zs.getD i 0) p p (zs.length - p) n d∧∃ q,w'=w.drewN q:=by
 have HR:=qz hr
 have HZ:=qz hz
 have HML:=qz hm
 clear hr hz hm
 obtain ⟨L,hL⟩:∃ L,L=zs.length:=⟨_,rfl⟩
 rw [← hL] at HR hp hl hcap ⊢
 have HL:=qz hL
 clear hL
 have HSUB:Hid (∀ f k c',f+k≤L→k≤c'→ReadsU B w (.slice (some ⟨b,off+f,none⟩) k c') ((zs.drop f).take k)):=qz fun f k c' h1 h2=>by
  have h3:=uh HR
  rw [uh HL] at h3
  exact h3.sub rfl f k c' (by rw [← uh HL];exact h1) h2
 have HSM:Hid (∀ f k,∀ z∈(zs.drop f).take k,z<256):=qz fun f k z h=>uh HZ z (List.mem_of_mem_drop (List.mem_of_mem_take h))
 have HLEN:Hid (∀ f k,f+k≤L→((zs.drop f).take k).length=k):=qz fun f k h=>by rw [uh HL] at h;simp;omega
 obtain ⟨m,hm⟩:∃ m:Nat,m=L - p:=⟨_,rfl⟩
 rw [← hm]
 have hpm:p+m=L:=by omega
 have HPM:=qz hpm
 have hLp:L - p=m:=hm.symm
 have hcp:¬ cap - p=0:=by omega
 have hpc:p≤cap:=by omega
 have hpL:p≤L:=by omega
 have hm0:0<m:=by omega
 clear hm hpm
 go_enter Tryz.func95,Tryz.ntmps95
 go_wp2_with fail
 go_loopg [4,7] (p+1) (fun gk vn vp ws=>∃ (n pl q:Nat),gk=p+1 - pl∧n≤m∧pl≤p∧vn=.int .i64 (n:Int)∧vp=.int .i64 (pl:Int)∧Hid (SeekAt (fun i=>zs.getD i 0) p m n pl)∧ws=w.drewN q)
 case atStart=>exact ⟨0,0,0,by omega,by omega,by omega,rfl,rfl,qz (SeekAt.start _ _ _),rfl⟩
 case round =>
  obtain ⟨n,pl,q,rfl,hn,hpl,rfl,rfl,hat,rfl⟩:=hrel
  by_cases hnm:n<m
  ·have hni:(n:Int)<(m:Int):=by omega
   obtain ⟨E,hE⟩:∃ E:Nat,(p:Int)+(n:Int)=(E:Int):=⟨p+n,by omega⟩
   obtain ⟨T,hT⟩:∃ T:Nat,E - pl=T:=⟨_,rfl⟩
   have hEL:E≤L:=by have:=uh HPM;omega
   have hplE:pl≤E:=by omega
   have hEc:E≤cap:=by omega
   have hplc:¬ cap - pl=0:=by omega
   have hcpl:¬ cap=pl:=by omega
   obtain ⟨n1,hn1⟩:∃ n1:Nat,(n:Int)+1=(n1:Int):=⟨n+1,by omega⟩
   have hn1c:n1≤cap - p:=by have:=uh HPM;omega
   obtain ⟨r,hf,hcall⟩:=index_det ((zs.drop pl).take T) ((zs.drop p).take n1) b (off+pl) (cap - pl) b (off+p) (cap - p) B (w.drewN q) (by rw [uh HLEN pl T (by omega)];exact (uh HSUB pl T _ (by omega) (by omega)).drewN q) (by rw [uh HLEN p n1 (by have:=uh HPM;omega)];exact (uh HSUB p n1 _ (by have:=uh HPM;omega) hn1c).drewN q) (uh HSM pl T) (uh HSM p n1) (by rw [uh HLEN p n1 (by have:=uh HPM;omega)];omega) (by rw [uh HLEN pl T (by omega)];omega) (by rw [uh HLEN p n1 (by have:=uh HPM;omega)];omega) (by rw [uh HLEN pl T (by omega)];omega) ((uh HML).drewN q)
   rw [uh HLEN pl T (by omega),uh HLEN p n1 (by have:=uh HPM;omega)] at hcall
   have HCALL:=qz hcall
   have HF:Hid ((r = -1∧∀ x,pl≤x→x<p→¬ Same (fun i=>zs.getD i 0) p x (n+1))∨∃ x:Nat,(pl:Int)+r=(x:Int)∧¬ r<0∧pl≤x∧x<p∧Same (fun i=>zs.getD i 0) p x (n+1)∧∀ y,pl≤y→y<x→¬ Same (fun i=>zs.getD i 0) p y (n+1)):=qz (by
    have hn1':n1=n+1:=by omega
    have hpn:p+n1≤zs.length:=by rw [← uh HL];have:=uh HPM;omega
    rcases hf with ⟨e,h1⟩ | ⟨j,e,h1,h2,h3⟩
    ·refine .inl ⟨e,fun x hx1 hx2 hs=>?_⟩
     have hj:(x - pl)+n1≤T:=by omega
     refine h1 (x - pl) (by rw [uh HLEN pl T (by omega),uh HLEN p n1 (by have:=uh HPM;omega)];exact hj) ((stands_same hpn hj).2 ?_)
     rw [show pl+(x - pl)=x by omega,hn1']
     exact hs
    ·rw [uh HLEN pl T (by omega),uh HLEN p n1 (by have:=uh HPM;omega)] at h1
     refine .inr ⟨pl+j,by omega,by omega,by omega,by omega,?_,fun y hy1 hy2 hs=>?_⟩
     ·have:=(stands_same hpn h1).1 h2
      rw [hn1'] at this
      exact this
     ·have hj:(y - pl)+n1≤T:=by omega
      refine h3 (y - pl) (by omega) ((stands_same hpn hj).2 ?_)
      rw [show pl+(y - pl)=y by omega,hn1']
      exact hs)
   have hwE:IntKind.i64.wrap (E:Int)=(E:Int):=IntWalk.i64_in _ (by omega)
   have hwn1:IntKind.i64.wrap (n1:Int)=(n1:Int):=IntWalk.i64_in _ (by omega)
   obtain ⟨wq,hwq⟩:∃ wq,wq=w.drewN q:=⟨_,rfl⟩
   rw [← hwq] at HCALL
   clear hf hcall
   go_wp2_with fail
   rw [← hwq]
   have HWQ0:=qz hwq
   clear hwq
   go_quiet (first | (go_at_call 122;exact uh HCALL _))
   have HWQ:Hid (wq.drewN nq=w.drewN (q+nq)):=qz (by rw [uh HWQ0,World.drewN_drewN])
   rw [uh HWQ]
   clear HCALL HWQ HWQ0
   rcases uh HF with ⟨rfl,hno⟩ | ⟨x,hx1,hr0,hx2,hx3,hx4,hx5⟩
   ·have HALL:Hid (n<m→∀ x,x<p→¬ Same (fun i=>zs.getD i 0) p x (n+1)):=qz fun _ x hx=>by
     by_cases h:x<pl
     ·exact (uh hat).no hnm x h
     ·exact hno x (by omega) hx
    clear HF hno
    obtain ⟨QQ,hQQ⟩:∃ QQ,QQ=q+nq:=⟨_,rfl⟩
    rw [← hQQ]
    clear hQQ hE hT hn1
    by_cases hn0:n=0
    ·have HB:Hid (IsBest (fun i=>zs.getD i 0) p p m 0 0):=qz (by
      have h1:=uh hat
      have h2:=uh HALL
      rw [hn0] at h1 h2
      exact h1.none h2)
     subst hn0
     clear hat HALL
     go_wp2_with fail
     go_ret2
     exact ⟨0,0,rfl,uh HB,QQ,rfl⟩
    ·have hn0b:((n:Int) == 0)=false:=by simp;omega
     obtain ⟨E2,hE2⟩:∃ E2:Nat,(p:Int)+(n:Int) - 1=(E2:Int):=⟨p+n - 1,by omega⟩
     obtain ⟨pn,hpn⟩:∃ pn:Nat,(p:Int)+(n:Int)=(pn:Int):=⟨p+n,by omega⟩
     have hE3:(pn:Int) - 1=(E2:Int):=by omega
     obtain ⟨x0,hx0,hs0⟩:=(uh hat).has (by omega)
     have hE2L:E2≤L:=by have:=uh HPM;omega
     have hE2c:E2≤cap:=by omega
     have hnc:n≤cap - p:=by have:=uh HPM;omega
     have hpnL:p+n≤L:=by have:=uh HPM;omega
     obtain ⟨r2,hf2,hcall2⟩:=lasti_det ((zs.drop 0).take E2) ((zs.drop p).take n) b off cap b (off+p) (cap - p) B (w.drewN QQ) (by rw [uh HLEN 0 E2 (by omega)];exact (uh HSUB 0 E2 _ (by omega) hE2c).drewN QQ) (by rw [uh HLEN p n hpnL];exact (uh HSUB p n _ hpnL hnc).drewN QQ) (uh HSM 0 E2) (uh HSM p n) (by rw [uh HLEN p n hpnL];omega) (by rw [uh HLEN 0 E2 (by omega),uh HLEN p n hpnL];omega) (by rw [uh HLEN 0 E2 (by omega)];omega) (by rw [uh HLEN 0 E2 (by omega)];exact hE2c)
     rw [uh HLEN 0 E2 (by omega),uh HLEN p n hpnL] at hf2 hcall2
     have hk:E2 - n+1=p:=by omega
     rw [hk] at hf2
     have hzl:p+n≤zs.length:=by rw [← uh HL];exact hpnL
     have HR2:Hid (∃ j:Nat,r2=(j:Int)∧j<p∧IsBest (fun i=>zs.getD i 0) p p m n (p - j)):=qz (by
      rcases hf2 with ⟨_,h1⟩ | ⟨j,e,h1,h2,h3⟩
      ·exact absurd ((stands_same (f:=0) (l:=E2) hzl (show x0+n≤E2 by omega)).2 (by rw [Nat.zero_add];exact hs0)) (h1 x0 hx0)
      ·have hj:=(stands_same (f:=0) (l:=E2) hzl (show j+n≤E2 by omega)).1 h2
       rw [Nat.zero_add] at hj
       refine ⟨j,e,h1,(uh hat).best (by omega) (uh HALL) h1 hj fun x hx1 hx2 hs=>?_⟩
       exact h3 x hx1 hx2 ((stands_same (f:=0) (l:=E2) hzl (show x+n≤E2 by omega)).2 (by rw [Nat.zero_add];exact hs)))
     have HC2:=qz hcall2
     have hwp:IntKind.i64.wrap (pn:Int)=(pn:Int):=IntWalk.i64_in _ (by omega)
     have hwe:IntKind.i64.wrap (E2:Int)=(E2:Int):=IntWalk.i64_in _ (by omega)
     obtain ⟨j,hj1,hj2,hj3⟩:=uh HR2
     subst hj1
     obtain ⟨dd,hdd⟩:∃ dd:Nat,(p:Int) - (j:Int)=(dd:Int):=⟨p - j,by omega⟩
     have hwd:IntKind.i64.wrap (dd:Int)=(dd:Int):=IntWalk.i64_in _ (by omega)
     have HB:Hid (IsBest (fun i=>zs.getD i 0) p p m n dd):=qz (by rw [show dd=p - j by omega];exact hj3)
     obtain ⟨wq2,hwq2⟩:∃ wq2,wq2=w.drewN QQ:=⟨_,rfl⟩
     rw [← hwq2] at HC2
     clear hat HALL hf2 hcall2 hs0 hx0 hj3 HR2 hk hzl hE2
     go_upto_region 11 with fail
     rw [← hwq2]
     have HWQ2:=qz hwq2
     clear hwq2
     go_quiet (first | (go_at_call 124;exact uh HC2 _))
     go_wp2_with fail
     go_ret2
     exact ⟨n,dd,rfl,uh HB,QQ+nq,by rw [uh HWQ2,World.drewN_drewN]⟩
   ·have hxc:¬ cap - x=0:=by omega
    have hxcc:¬ cap=x:=by omega
    have hxL:x≤L:=by omega
    have hxcap:x≤cap:=by omega
    have HCM:=qz (common_ok ((zs.drop x).take (L - x)) ((zs.drop p).take m) (.slice (some ⟨b,off+x,none⟩) (L - x) (cap - x)) (.slice (some ⟨b,off+p,none⟩) m (cap - p)) B B (w.drewN (q+nq)) ((uh HSUB x (L - x) _ (by omega) (by omega)).drewN _) ((uh HSUB p m _ (by have:=uh HPM;omega) (by have:=uh HPM;omega)).drewN _) (by rw [uh HLEN x (L - x) (by omega)];omega))
    have HNX:Hid (∀ n',IsCommon ((zs.drop x).take (L - x)) ((zs.drop p).take m) n'→n'≤m∧SeekAt (fun i=>zs.getD i 0) p m n' (x+1)):=qz fun n' hc=>by
     have l1:=hc.l1
     have l2:=hc.l2
     rw [uh HLEN x (L - x) (by omega)] at l1
     rw [uh HLEN p m (by have:=uh HPM;omega)] at l2
     have hs:Same (fun i=>zs.getD i 0) p x n':=fun i hi=>by
      have:=hc.eq i hi
      rw [slice_get _ _ _ _ (show i<L - x by omega),slice_get _ _ _ _ (show i<m by omega)] at this
      exact this
     have hne:n'<m→zs.getD (x+n') 0≠zs.getD (p+n') 0:=fun h=>by
      have hxl:n'<L - x:=by have:=uh HPM;omega
      have:=hc.ne (by rw [uh HLEN x (L - x) (by omega)];exact hxl) (by rw [uh HLEN p m (by have:=uh HPM;omega)];exact h)
      rw [slice_get _ _ _ _ hxl,slice_get _ _ _ _ h] at this
      exact this
     refine ⟨l2,(uh hat).next hnm hx2 hx3 hx5 hs ?_ l2 fun h hc'=>hne h (hc' n' (by omega))⟩
     refine Classical.byContradiction fun hlt=>?_
     exact hne (by omega) (hx4 n' (by omega))
    obtain ⟨QQ,hQQ⟩:∃ QQ,QQ=q+nq:=⟨_,rfl⟩
    rw [← hQQ] at HCM ⊢
    clear HF hx4 hx5 hE hT hn1 hat hQQ
    go_wp2_with fail
    refine (uh HCM).mono ?_
    rintro e w' ⟨n',rfl,hcom,q3,rfl⟩
    obtain ⟨hn'm,hat2⟩:=uh HNX n' hcom
    have HAT2:=qz hat2
    clear HCM HNX hcom hat2
    go_wp2_with fail
    go_roundg (p+1 - (x+1))
    case measure=>omega
    case rel=>exact ⟨n',x+1,QQ+q3,rfl,hn'm,by omega,rfl,by go_num,HAT2,by first | rfl | (rw [World.drewN_drewN])⟩
  ·have hni:¬ (n:Int)<(m:Int):=by omega
   have HALL:Hid (n<m→∀ x,x<p→¬ Same (fun i=>zs.getD i 0) p x (n+1)):=qz fun h=>absurd h hnm
   obtain ⟨QQ,hQQ⟩:∃ QQ,QQ=q:=⟨_,rfl⟩
   rw [← hQQ]
   clear hQQ
   by_cases hn0:n=0
   ·exfalso;omega
   ·have hn0b:((n:Int) == 0)=false:=by simp;omega
    obtain ⟨E2,hE2⟩:∃ E2:Nat,(p:Int)+(n:Int) - 1=(E2:Int):=⟨p+n - 1,by omega⟩
    obtain ⟨pn,hpn⟩:∃ pn:Nat,(p:Int)+(n:Int)=(pn:Int):=⟨p+n,by omega⟩
    have hE3:(pn:Int) - 1=(E2:Int):=by omega
    obtain ⟨x0,hx0,hs0⟩:=(uh hat).has (by omega)
    have hE2L:E2≤L:=by have:=uh HPM;omega
    have hE2c:E2≤cap:=by omega
    have hnc:n≤cap - p:=by have:=uh HPM;omega
    have hpnL:p+n≤L:=by have:=uh HPM;omega
    obtain ⟨r2,hf2,hcall2⟩:=lasti_det ((zs.drop 0).take E2) ((zs.drop p).take n) b off cap b (off+p) (cap - p) B (w.drewN QQ) (by rw [uh HLEN 0 E2 (by omega)];exact (uh HSUB 0 E2 _ (by omega) hE2c).drewN QQ) (by rw [uh HLEN p n hpnL];exact (uh HSUB p n _ hpnL hnc).drewN QQ) (uh HSM 0 E2) (uh HSM p n) (by rw [uh HLEN p n hpnL];omega) (by rw [uh HLEN 0 E2 (by omega),uh HLEN p n hpnL];omega) (by rw [uh HLEN 0 E2 (by omega)];omega) (by rw [uh HLEN 0 E2 (by omega)];exact hE2c)
    rw [uh HLEN 0 E2 (by omega),uh HLEN p n hpnL] at hf2 hcall2
    have hk:E2 - n+1=p:=by omega
    rw [hk] at hf2
    have hzl:p+n≤zs.length:=by rw [← uh HL];exact hpnL
    have HR2:Hid (∃ j:Nat,r2=(j:Int)∧j<p∧IsBest (fun i=>zs.getD i 0) p p m n (p - j)):=qz (by
     rcases hf2 with ⟨_,h1⟩ | ⟨j,e,h1,h2,h3⟩
     ·exact absurd ((stands_same (f:=0) (l:=E2) hzl (show x0+n≤E2 by omega)).2 (by rw [Nat.zero_add];exact hs0)) (h1 x0 hx0)
     ·have hj:=(stands_same (f:=0) (l:=E2) hzl (show j+n≤E2 by omega)).1 h2
      rw [Nat.zero_add] at hj
      refine ⟨j,e,h1,(uh hat).best (by omega) (uh HALL) h1 hj fun x hx1 hx2 hs=>?_⟩
      exact h3 x hx1 hx2 ((stands_same (f:=0) (l:=E2) hzl (show x+n≤E2 by omega)).2 (by rw [Nat.zero_add];exact hs)))
    have HC2:=qz hcall2
    have hwp:IntKind.i64.wrap (pn:Int)=(pn:Int):=IntWalk.i64_in _ (by omega)
    have hwe:IntKind.i64.wrap (E2:Int)=(E2:Int):=IntWalk.i64_in _ (by omega)
    obtain ⟨j,hj1,hj2,hj3⟩:=uh HR2
    subst hj1
    obtain ⟨dd,hdd⟩:∃ dd:Nat,(p:Int) - (j:Int)=(dd:Int):=⟨p - j,by omega⟩
    have hwd:IntKind.i64.wrap (dd:Int)=(dd:Int):=IntWalk.i64_in _ (by omega)
    have HB:Hid (IsBest (fun i=>zs.getD i 0) p p m n dd):=qz (by rw [show dd=p - j by omega];exact hj3)
    obtain ⟨wq2,hwq2⟩:∃ wq2,wq2=w.drewN QQ:=⟨_,rfl⟩
    rw [← hwq2] at HC2
    clear hat HALL hf2 hcall2 hs0 hx0 hj3 HR2 hk hzl hE2
    go_upto_region 11 with fail
    rw [← hwq2]
    have HWQ2:=qz hwq2
    clear hwq2
    go_quiet (first | (go_at_call 124;exact uh HC2 _))
    go_wp2_with fail
    go_ret2
    exact ⟨n,dd,rfl,uh HB,QQ+nq,by rw [uh HWQ2,World.drewN_drewN]⟩
end T6
namespace T6
open Go.RowKit Go.Lib
attribute [local go_sem ↓] wp_at_zero wp_at_succ
theorem best_none (z:Nat→Nat) (p w:Nat):IsBest z p w 0 0 0:=⟨Nat.le_refl _,.inl ⟨rfl,rfl⟩,fun h=>by omega⟩
theorem seek_end (a:Option Addr) (p:Nat) (w:World) (hp:p≤140737488355328) (ha:a=none→p=0) :
  Calls Tryz.prog 95 #[.slice a p p,.int .i64 (p:Int)] w fun e w'=>e=.returned (.tuple #[.int .i64 0,.int .i64 0])∧w'=w:=by
 cases a with
 | none =>
  obtain rfl:=ha rfl
  go_enter Tryz.func95,Tryz.ntmps95
  go_wp2_with fail
  go_loopg [4,7] 0 (fun gk vn vp ws=>gk=0∧vn=.int .i64 0∧vp=.int .i64 0∧w=ws)
  case atStart=>exact ⟨rfl,rfl,rfl,rfl⟩
  case round =>
   obtain ⟨-,rfl,rfl,rfl⟩:=hrel
   go_wp2_with fail
   go_ret2
   exact ⟨rfl,rfl⟩
 | some x =>
  go_enter Tryz.func95,Tryz.ntmps95
  go_wp2_with fail
  go_loopg [4,7] 0 (fun gk vn vp ws=>gk=0∧vn=.int .i64 0∧vp=.int .i64 0∧w=ws)
  case atStart=>exact ⟨rfl,rfl,rfl,rfl⟩
  case round =>
   obtain ⟨-,rfl,rfl,rfl⟩:=hrel
   go_wp2_with fail
   go_ret2
   exact ⟨rfl,rfl⟩
theorem seek_ok (zs:List Nat) (a:Option Addr) (B p:Nat) (w:World) (hr:ReadsU B w (.slice a zs.length zs.length) zs) (hz:∀ z∈zs,z<256) (hp:p≤zs.length) (hl:zs.length<4294967281) (hm:ML w) :
  Calls Tryz.prog 95 #[.slice a zs.length zs.length,.int .i64 (p:Int)] w fun e w'=>∃ n d:Nat,e=.returned (.tuple #[.int .i64 (n:Int),.int .i64 (d:Int)])∧IsBest (fun i=>zs.getD i 0) p p (zs.length - p) n d∧∃ q,w'=w.drewN q:=by
 obtain ⟨a',c',e,_,hs⟩:=id hr
 injection e with e1 e2 e3
 subst e1
 by_cases h:p<zs.length
 ·obtain ⟨b,off,rfl,_⟩:=hs (by omega)
  exact seek_loop zs b off zs.length B p w hr hz h hl (Nat.le_refl _) hm
 ·have e:zs.length=p:=by omega
  rw [e] at hs ⊢
  refine (seek_end a p w (by omega) (fun h=>?_)).mono ?_
  ·rcases Nat.eq_zero_or_pos p with h0 | h0
   ·exact h0
   ·obtain ⟨b,off,e,_⟩:=hs h0
    rw [h] at e
    cases e
  ·rintro e w' ⟨rfl,rfl⟩
   exact ⟨0,0,rfl,by rw [Nat.sub_self];exact best_none _ _ _,0,rfl⟩
end T6
namespace T6
open Go.RowKit Go.Maps
attribute [local go_sem ↓] wp_at_zero wp_at_succ
theorem IsCommon.eq' {xs ys:List Nat} {n m:Nat} (h:IsCommon xs ys n) (k:IsCommon xs ys m):n=m:=by
 have key:∀ {a b:Nat},IsCommon xs ys a→IsCommon xs ys b→¬ a<b:=fun {a b} ha hb hlt=>ha.ne (by have:=hb.l1;omega) (by have:=hb.l2;omega) (hb.eq a hlt)
 have h1:=key h k
 have h2:=key k h
 omega
theorem IsCommon.has:∀ xs ys:List Nat,∃ n,IsCommon xs ys n
 | [],ys=>⟨0,by simp,by simp,fun i h=>by omega,fun h=>by simp at h⟩
 | x :: xs,[]=>⟨0,by simp,by simp,fun i h=>by omega,fun _ h=>by simp at h⟩
 | x :: xs,y :: ys=>by
  by_cases e:x=y
  ·obtain ⟨n,h1,h2,h3,h4⟩:=IsCommon.has xs ys
   refine ⟨n+1,by simp;omega,by simp;omega,fun i hi=>?_,fun k1 k2=>?_⟩
   ·match i,hi with
    | 0,_=>simpa using e
    | i+1,hi=>simpa using h3 i (by omega)
   ·simpa using h4 (by simpa using k1) (by simpa using k2)
  ·exact ⟨0,by simp,by simp,fun i h=>by omega,fun _ _=>by simpa using e⟩
theorem common_det (xs ys:List Nat) (v u:Value) (B B':Nat) (w:World) (h1:ReadsU B w v xs) (h2:ReadsU B' w u ys) (hl:xs.length≤140737488355328) :
  ∃ c:Nat,IsCommon xs ys c∧∀ q,Calls Tryz.prog 123 #[v,u] (w.drewN q) fun e w'=>e=.returned (.int .i64 (c:Int))∧∃ m,w'=w.drewN m:=by
 obtain ⟨c,hc⟩:=IsCommon.has xs ys
 refine ⟨c,hc,fun q=>(common_ok xs ys v u B B' (w.drewN q) (h1.drewN q) (h2.drewN q) hl).mono ?_⟩
 rintro e w' ⟨n,rfl,hn,q',rfl⟩
 obtain rfl:=hn.eq' hc
 exact ⟨rfl,q+q',by rw [World.drewN_drewN]⟩
structure WB (H:Nat) (tx pc:Value) (p M:Nat) (left:Int) (n d:Nat) (w:World):Prop where
 b1:w.heap[H+1]?=some (.cells #[.int .i64 (p:Int)] 3 (0,0))
 b2:w.heap[H+2]?=some (.cells #[.int .i64 (M:Int)] 3 (0,0))
 b3:w.heap[H+3]?=some (.cells #[.int .i64 (n:Int)] 3 (0,0))
 b4:w.heap[H+4]?=some (.cells #[.int .i64 (d:Int)] 3 (0,0))
 b5:w.heap[H+5]?=some (.cells #[tx] 22 (0,0))
 b6:w.heap[H+6]?=some (.cells #[pc] 22 (0,0))
 b7:w.heap[H+7]?=some (.cells #[.int .i64 left] 3 (0,0))
section
variable {H:Nat} {tx pc:Value} {p M:Nat} {left:Int} {n d:Nat} {w:World}
theorem WB.c1 (h:WB H tx pc p M left n d w):w.cell? ⟨H+1,0,none⟩=some (.int .i64 (p:Int)):=by simp [World.cell?,h.b1]
theorem WB.c2 (h:WB H tx pc p M left n d w):w.cell? ⟨H+2,0,none⟩=some (.int .i64 (M:Int)):=by simp [World.cell?,h.b2]
theorem WB.c3 (h:WB H tx pc p M left n d w):w.cell? ⟨H+3,0,none⟩=some (.int .i64 (n:Int)):=by simp [World.cell?,h.b3]
theorem WB.c4 (h:WB H tx pc p M left n d w):w.cell? ⟨H+4,0,none⟩=some (.int .i64 (d:Int)):=by simp [World.cell?,h.b4]
theorem WB.c5 (h:WB H tx pc p M left n d w):w.cell? ⟨H+5,0,none⟩=some tx:=by simp [World.cell?,h.b5]
theorem WB.c6 (h:WB H tx pc p M left n d w):w.cell? ⟨H+6,0,none⟩=some pc:=by simp [World.cell?,h.b6]
theorem WB.c7 (h:WB H tx pc p M left n d w):w.cell? ⟨H+7,0,none⟩=some (.int .i64 left):=by simp [World.cell?,h.b7]
theorem WB.f3 (h:WB H tx pc p M left n d w):w.frozen? ⟨H+3,0,none⟩=false:=by simp [World.frozen?,h.b3]
theorem WB.f4 (h:WB H tx pc p M left n d w):w.frozen? ⟨H+4,0,none⟩=false:=by simp [World.frozen?,h.b4]
theorem WB.f7 (h:WB H tx pc p M left n d w):w.frozen? ⟨H+7,0,none⟩=false:=by simp [World.frozen?,h.b7]
theorem WB.same {y:World} (h:WB H tx pc p M left n d w) (e:y.heap=w.heap):WB H tx pc p M left n d y:=by
 obtain ⟨h1,h2,h3,h4,h5,h6,h7⟩:=h
 rw [← e] at h1 h2 h3 h4 h5 h6 h7
 exact ⟨h1,h2,h3,h4,h5,h6,h7⟩
theorem WB.left' (h:WB H tx pc p M left n d w) (l:Int):WB H tx pc p M l n d (w.setCell ⟨H+7,0,none⟩ (.int .i64 l)):=by
 have o:∀ k,k≠H+7→(w.setCell ⟨H+7,0,none⟩ (.int .i64 l)).heap[k]?=w.heap[k]?:=fun k hk=>heap_setCell_other _ _ _ _ (by exact hk)
 exact ⟨by rw [o _ (by omega)];exact h.b1,by rw [o _ (by omega)];exact h.b2,by rw [o _ (by omega)];exact h.b3,by rw [o _ (by omega)];exact h.b4,by rw [o _ (by omega)];exact h.b5,by rw [o _ (by omega)];exact h.b6,by rw [heap_setCell_same w (H+7) 0 _ 3 _ h.b7];rfl⟩
theorem WB.len' (h:WB H tx pc p M left n d w) (l:Nat):WB H tx pc p M left l d (w.setCell ⟨H+3,0,none⟩ (.int .i64 (l:Int))):=by
 have o:∀ k,k≠H+3→(w.setCell ⟨H+3,0,none⟩ (.int .i64 (l:Int))).heap[k]?=w.heap[k]?:=fun k hk=>heap_setCell_other _ _ _ _ (by exact hk)
 exact ⟨by rw [o _ (by omega)];exact h.b1,by rw [o _ (by omega)];exact h.b2,by rw [heap_setCell_same w (H+3) 0 _ 3 _ h.b3];rfl,by rw [o _ (by omega)];exact h.b4,by rw [o _ (by omega)];exact h.b5,by rw [o _ (by omega)];exact h.b6,by rw [o _ (by omega)];exact h.b7⟩
theorem WB.dist' (h:WB H tx pc p M left n d w) (l:Nat):WB H tx pc p M left n l (w.setCell ⟨H+4,0,none⟩ (.int .i64 (l:Int))):=by
 have o:∀ k,k≠H+4→(w.setCell ⟨H+4,0,none⟩ (.int .i64 (l:Int))).heap[k]?=w.heap[k]?:=fun k hk=>heap_setCell_other _ _ _ _ (by exact hk)
 exact ⟨by rw [o _ (by omega)];exact h.b1,by rw [o _ (by omega)];exact h.b2,by rw [o _ (by omega)];exact h.b3,by rw [heap_setCell_same w (H+4) 0 _ 3 _ h.b4];rfl,by rw [o _ (by omega)];exact h.b5,by rw [o _ (by omega)];exact h.b6,by rw [o _ (by omega)];exact h.b7⟩
end
structure WKeep (H:Nat) (w w':World):Prop where
 os:w'.os=w.os
 tape:w'.tape=w.tape
 output:w'.output=w.output
 size:w.heap.size≤w'.heap.size
 kp:∀ x:Nat,x<w.heap.size→x≠H+3→x≠H+4→x≠H+7→w'.heap[x]?=w.heap[x]?
theorem WKeep.refl (H:Nat) (w:World):WKeep H w w:=⟨rfl,rfl,rfl,Nat.le_refl _,fun _ _ _ _ _=>rfl⟩
theorem WKeep.trans {H:Nat} {x y z:World} (h:WKeep H x y) (k:WKeep H y z):WKeep H x z :=
 ⟨k.os.trans h.os,k.tape.trans h.tape,k.output.trans h.output,Nat.le_trans h.size k.size,fun i hi e1 e2 e3=>by rw [k.kp i (by have:=h.size;omega) e1 e2 e3,h.kp i hi e1 e2 e3]⟩
theorem WKeep.drewN {H:Nat} {x y:World} (h:WKeep H x y) (q:Nat):WKeep H x (y.drewN q):=⟨h.os,h.tape,h.output,h.size,h.kp⟩
theorem WKeep.drew {H:Nat} {x y:World} (h:WKeep H x y):WKeep H x y.drew:=⟨h.os,h.tape,h.output,h.size,h.kp⟩
theorem WKeep.set {H:Nat} {x y:World} (h:WKeep H x y) {k:Nat} (hk:k=H+3∨k=H+4∨k=H+7) (u:Value):WKeep H x (y.setCell ⟨k,0,none⟩ u) :=
 ⟨h.os,h.tape,h.output,by simpa using h.size,fun i hi e1 e2 e3=>by rw [heap_setCell_other _ _ _ _ (by show i≠k;omega),h.kp i hi e1 e2 e3]⟩
def Weighed (zs:List Nat) (p M x n d:Nat) (left:Int) (n' d':Nat) (left':Int):Prop :=
 (zs.getD (x+n) 0≠zs.getD (p+n) 0∧n'=n∧d'=d∧left'=left - 1) ∨
 (zs.getD (x+n) 0=zs.getD (p+n) 0∧∃ c:Nat,IsCommon (zs.drop x) ((zs.drop p).take M) c∧left'=left - 1 - c∧((n<c∧n'=c∧d'=p - x)∨(c≤n∧n'=n∧d'=d)))
def WeighIs (zs:List Nat) (H:Nat) (tx pc:Value) (p M x n d:Nat) (left:Int) (w:World) (e:Ending) (w':World):Prop :=
 ∃ (r:Bool) (n' d':Nat) (left':Int),e=.returned (.bool r)∧WB H tx pc p M left' n' d' w'∧Weighed zs p M x n d left n' d' left'∧((r=true∧n'<M∧0<left')∨(r=false∧(¬ n'<M∨left'≤0)))∧WKeep H w w'
theorem weigh_ok (zs:List Nat) (H B ba off cap p M x n d:Nat) (left:Int) (w:World) (hr:ReadsU B w (.slice (some ⟨ba,off,none⟩) zs.length cap) zs) (hcap:zs.length≤cap) (hl:zs.length≤100000000) (hp:p+M≤zs.length) (hx:x<p) (hn:n<M) (hBH:B≤H) (hHw:H≤w.heap.size) (hleft : -100000000≤left∧left≤100000000)
  (hb:WB H (.slice (some ⟨ba,off,none⟩) zs.length cap) (.slice (some ⟨ba,off+p,none⟩) M M) p M left n d w) :
  Calls Tryz.prog 128 #[.int .i64 (x:Int),.pointer (some ⟨H+7,0,none⟩),.pointer (some ⟨H+5,0,none⟩),.pointer (some ⟨H+3,0,none⟩),.pointer (some ⟨H+6,0,none⟩),.pointer (some ⟨H+1,0,none⟩),.pointer (some ⟨H+4,0,none⟩),.pointer (some ⟨H+2,0,none⟩)] w fun e w'=>WeighIs zs H (.slice (some ⟨ba,off,none⟩) zs.length cap) (.slice (some ⟨ba,off+p,none⟩) M M) p M x n d left w e w':=by
 have c7:=hb.c7
 have f7:=hb.f7
 obtain ⟨l1,hl1⟩:∃ l1:Int,left - 1=l1:=⟨_,rfl⟩
 have hwl:IntKind.i64.wrap l1=l1:=IntWalk.i64_in _ (by omega)
 have HB1:=qz (hb.left' l1)
 have HR:=qz hr
 clear hb hr
 obtain ⟨L,hL⟩:∃ L,L=zs.length:=⟨_,rfl⟩
 rw [← hL] at HB1 HR hcap hl hp ⊢
 have HL:=qz hL
 clear hL
 go_enter Tryz.func128,Tryz.ntmps128
 go_upto_region 2 with fail
 obtain ⟨W1,hW1⟩:∃ W1,W1=w.setCell ⟨H+7,0,none⟩ (.int .i64 l1):=⟨_,rfl⟩
 rw [← hW1] at HB1 ⊢
 have HWK1:Hid (WKeep H w W1):=qz (by rw [hW1];exact (WKeep.refl H w).set (.inr (.inr rfl)) _)
 have hr1:ReadsU B W1 (.slice (some ⟨ba,off,none⟩) zs.length cap) zs:=by
  have h1:=uh HR
  rw [uh HL] at h1
  refine h1.stays ⟨(uh HWK1).os,(uh HWK1).tape,(uh HWK1).output,(uh HWK1).size,fun k hk=>(uh HWK1).kp k (by omega) (by omega) (by omega) (by omega)⟩
 clear hW1 c7 f7 HR
 have c2:=(uh HB1).c2
 have c3:=(uh HB1).c3
 have c5:=(uh HB1).c5
 have c6:=(uh HB1).c6
 obtain ⟨xn,hxn⟩:∃ xn:Nat,(x:Int)+(n:Int)=(xn:Int):=⟨x+n,by omega⟩
 have hwx:IntKind.i64.wrap (xn:Int)=(xn:Int):=IntWalk.i64_in _ (by omega)
 have hxL:(xn:Int)<(L:Int):=by omega
 have hnM:(n:Int)<(M:Int):=by omega
 have hrc:∀ j,j<zs.length→W1.cell? ⟨ba,off+j,none⟩=some (.int .u8 (zs.getD j 0:Int)):=by
  obtain ⟨a',c',e,_,hs⟩:=hr1
  injection e with e1 e2 e3
  obtain ⟨b',off',e,_,hc⟩:=hs (by rw [← uh HL];omega)
  rw [← e1] at e
  injection e with e
  injection e with e1 e2
  subst e1 e2
  exact hc
 have k1:=hrc xn (by rw [← uh HL];omega)
 have k2:=hrc (p+n) (by rw [← uh HL];omega)
 rw [← Nat.add_assoc] at k2
 obtain ⟨y1,hy1⟩:∃ y1,y1=zs.getD xn 0:=⟨_,rfl⟩
 obtain ⟨y2,hy2⟩:∃ y2,y2=zs.getD (p+n) 0:=⟨_,rfl⟩
 rw [← hy1] at k1
 rw [← hy2] at k2
 have HY1:Hid (zs.getD (x+n) 0=y1):=qz (by rw [hy1];congr 1;omega)
 have HY2:Hid (zs.getD (p+n) 0=y2):=qz hy2.symm
 clear hy1 hy2 hrc
 by_cases hyy:y1=y2
 ·have e1:((y1:Int) == (y2:Int))=true:=by simp [hyy]
  have e1':(y1 == y2)=true:=by simp [hyy]
  have HRD:=qz hr1
  clear hr1 hyy
  go_quiet (fail)
  obtain ⟨W2,hW2⟩:∃ W2,W2=W1.drewN nq:=⟨_,rfl⟩
  rw [← hW2]
  have hb2:WB H (.slice (some ⟨ba,off,none⟩) L cap) (.slice (some ⟨ba,off+p,none⟩) M M) p M l1 n d W2:=by rw [hW2];exact (uh HB1).same rfl
  have hr1:ReadsU B W2 (.slice (some ⟨ba,off,none⟩) zs.length cap) zs:=by rw [hW2];exact (uh HRD).drewN _
  have HWK2:Hid (WKeep H w W2):=qz (by rw [hW2];exact (uh HWK1).drewN _)
  clear hW2 HRD HWK1 HB1 c2 c3 c5 c6 k1 k2
  obtain ⟨c,hc,hcall⟩:=common_det (zs.drop x) ((zs.drop p).take M) (.slice (some ⟨ba,off+x,none⟩) (L - x) (cap - x)) (.slice (some ⟨ba,off+p,none⟩) M M) B B W2 (by
    have h1:=hr1.sub rfl x (zs.length - x) (cap - x) (by rw [← uh HL];omega) (by rw [← uh HL];omega)
    rw [List.take_of_length_le (by simp),← uh HL] at h1
    exact h1) (hr1.sub rfl p M M (by rw [← uh HL];exact hp) (Nat.le_refl _)) (by simp;rw [← uh HL];omega)
  have hcM:c≤M:=by have:=hc.l2;simp at this;omega
  have HCALL:=qz hcall
  have HC:=qz hc
  have hcx:¬ cap - x=0:=by omega
  have hcx2:¬ cap=x:=by omega
  have hxc:x≤cap:=by omega
  have hxL2:x≤L:=by omega
  have HB2:=qz hb2
  have c2:=hb2.c2
  have c3:=hb2.c3
  have c5:=hb2.c5
  have c6:=hb2.c6
  have c7:=hb2.c7
  clear hc hcall hr1 hb2
  go_upto_region 3 with fail
  go_quiet (first | (go_at_call 123;exact uh HCALL _))
  obtain ⟨W3,hW3⟩:∃ W3,W3=W2.drewN nq:=⟨_,rfl⟩
  rw [← hW3]
  have hb3:WB H (.slice (some ⟨ba,off,none⟩) L cap) (.slice (some ⟨ba,off+p,none⟩) M M) p M l1 n d W3:=by rw [hW3];exact (uh HB2).same rfl
  have HWK3:Hid (WKeep H w W3):=qz (by rw [hW3];exact (uh HWK2).drewN _)
  clear hW3 HWK2 HB2 c2 c3 c5 c6 c7 HCALL
  obtain ⟨l2,hl2⟩:∃ l2:Int,l1 - (c:Int)=l2:=⟨_,rfl⟩
  have hb4:=hb3.left' l2
  have HWK4:=qz ((uh HWK3).set (.inr (.inr rfl)) (.int .i64 (l2)))
  have c7:=hb3.c7
  have f7:=hb3.f7
  have hw2:IntKind.i64.wrap l2=l2:=IntWalk.i64_in _ (by omega)
  have HL2:Hid (l2=left - 1 - (c:Int)):=qz (by omega)
  clear hb3
  go_upto_region 5 with fail
  obtain ⟨W4,hW4⟩:∃ W4,W4=W3.setCell ⟨H+7,0,none⟩ (.int .i64 (l2)):=⟨_,rfl⟩
  rw [← hW4] at hb4 HWK4 ⊢
  clear hW4 HWK3 c7 f7
  have c1:=hb4.c1
  have c2:=hb4.c2
  have c3:=hb4.c3
  have c4:=hb4.c4
  have c7:=hb4.c7
  have f3:=hb4.f3
  have f4:=hb4.f4
  by_cases hnc:n<c
  ·have hnci:(n:Int)<(c:Int):=by omega
   obtain ⟨dd,hdd⟩:∃ dd:Nat,(p:Int) - (x:Int)=(dd:Int):=⟨p - x,by omega⟩
   have hwd:IntKind.i64.wrap (dd:Int)=(dd:Int):=IntWalk.i64_in _ (by omega)
   have HW:Hid (Weighed zs p M x n d left c dd (l2)):=qz (.inr ⟨by rw [uh HY1,uh HY2];simpa using e1',c,uh HC,uh HL2,.inl ⟨hnc,rfl,by omega⟩⟩)
   have HB4a:=qz (hb4.same (y:=W4.drew) rfl)
   have HB4b:=qz ((uh HB4a).len' c)
   have HB5:=qz ((uh HB4b).dist' dd)
   have HWK5:=qz ((((uh HWK4).drew).set (.inl rfl) (.int .i64 (c:Int))).set (.inr (.inl rfl)) (.int .i64 (dd:Int)))
   clear hb4 HC
   go_upto_region 6 with fail
   refine wp_region_noPanic ?_
   refine wp_region_held_drew (S:=fun y=>y.cell? ⟨H+1,0,none⟩=some (.int .i64 (p:Int))) (by kernel_rfl) c1 (fun hHeld=>?_)
   refine hT 0 35 rfl rfl hHeld nPp (v:=?_) (fun x' hSx=>?_) ?_
   rotate_left 1
   ·go_simp <;> with_reducible rfl
   simp only [sA,sB]
   refine hT 1 36 rfl rfl hHeld nPp (v:=?_) (fun x' hSx=>?_) ?_
   rotate_left 1
   ·go_simp <;> with_reducible rfl
   simp only [sA,sB]
   refine hT 2 37 rfl rfl hHeld nPp (v:=?_) (fun x' hSx=>?_) ?_
   rotate_left 1
   ·go_simp <;> with_reducible rfl
   simp only [sA,sB]
   refine hT 3 38 rfl rfl hHeld nPp (v:=?_) (fun x' hSx=>?_) ?_
   rotate_left 1
   ·go_simp <;> with_reducible rfl
   simp only [sA,sB]
   refine held_skip 4 (by kernel_rfl) rfl rfl (by rfl) (w':=(W4.drew.setCell ⟨H+3,0,none⟩ (.int .i64 (c:Int)))) ?_ ((uh HB4b).c1) ?_
   ·(have q1:=(uh HB4a).c3;have q2:=(uh HB4a).f3;go_simp)
   refine held_skip 5 (by kernel_rfl) rfl rfl (by rfl) (w':=((W4.drew.setCell ⟨H+3,0,none⟩ (.int .i64 (c:Int))).setCell ⟨H+4,0,none⟩ (.int .i64 (dd:Int)))) ?_ ((uh HB5).c1) ?_
   ·(have q1:=(uh HB4b).c4;have q2:=(uh HB4b).f4;go_simp)
   refine wpAnyH_done (by kernel_rfl) ?_ _
   refine NoPanic.normal ?_
   go_upto_region 7 with fail
   obtain ⟨W5,hW5⟩:∃ W5,W5=(W4.drew.setCell ⟨H+3,0,none⟩ (.int .i64 (c:Int))).setCell ⟨H+4,0,none⟩ (.int .i64 (dd:Int)):=⟨_,rfl⟩
   rw [← hW5] at HB5 HWK5 ⊢
   clear hW5 HWK4 HB4a HB4b c1 c2 c3 c4 c7 f3 f4 hHeld
   have c2:=(uh HB5).c2
   have c3:=(uh HB5).c3
   have c7:=(uh HB5).c7
   by_cases h1:c<M
   ·have h1i:(c:Int)<(M:Int):=by omega
    by_cases h2:0<l2
    ·go_wp2_with fail
     go_ret
     exact ⟨true,c,dd,l2,rfl,uh HB5,uh HW,.inl ⟨rfl,h1,h2⟩,uh HWK5⟩
    ·go_wp2_with fail
     go_ret
     exact ⟨false,c,dd,l2,rfl,uh HB5,uh HW,.inr ⟨rfl,.inr (by omega)⟩,uh HWK5⟩
   ·have h1i:¬ (c:Int)<(M:Int):=by omega
    go_wp2_with fail
    go_ret
    exact ⟨false,c,dd,l2,rfl,uh HB5,uh HW,.inr ⟨rfl,.inl h1⟩,uh HWK5⟩
  ·have hnci:¬ (n:Int)<(c:Int):=by omega
   have HW:Hid (Weighed zs p M x n d left n d (l2)):=qz (.inr ⟨by rw [uh HY1,uh HY2];simpa using e1',c,uh HC,uh HL2,.inr ⟨by omega,rfl,rfl⟩⟩)
   have HB5:=qz hb4
   clear hb4 HC
   go_upto_region 7 with fail
   by_cases h2:0<l2
   ·go_wp2_with fail
    go_ret
    exact ⟨true,n,d,l2,rfl,uh HB5,uh HW,.inl ⟨rfl,hn,h2⟩,uh HWK4⟩
   ·go_wp2_with fail
    go_ret
    exact ⟨false,n,d,l2,rfl,uh HB5,uh HW,.inr ⟨rfl,.inr (by omega)⟩,uh HWK4⟩
 ·have e1:((y1:Int) == (y2:Int))=false:=by simp;omega
  have e1':(y1 == y2)=false:=by simp [hyy]
  have HW:Hid (Weighed zs p M x n d left n d l1):=qz (.inl ⟨by rw [uh HY1,uh HY2];exact hyy,rfl,rfl,hl1.symm⟩)
  clear hr1
  go_quiet (fail)
  obtain ⟨W2,hW2⟩:∃ W2,W2=W1.drewN nq:=⟨_,rfl⟩
  rw [← hW2]
  have HB2:Hid (WB H (.slice (some ⟨ba,off,none⟩) L cap) (.slice (some ⟨ba,off+p,none⟩) M M) p M l1 n d W2):=qz (by rw [hW2];exact (uh HB1).same rfl)
  have HWK2:Hid (WKeep H w W2):=qz (by rw [hW2];exact (uh HWK1).drewN _)
  clear hW2 HWK1 HB1 c2 c3 c5 c6 k1 k2
  have c2:=(uh HB2).c2
  have c3:=(uh HB2).c3
  have c7:=(uh HB2).c7
  by_cases h2:0<l1
  ·go_wp2_with fail
   go_ret
   exact ⟨true,n,d,l1,rfl,uh HB2,uh HW,.inl ⟨rfl,hn,h2⟩,uh HWK2⟩
  ·go_wp2_with fail
   go_ret
   exact ⟨false,n,d,l1,rfl,uh HB2,uh HW,.inr ⟨rfl,.inr (by omega)⟩,uh HWK2⟩
end T6
namespace T6
open Go.RowKit Go.Maps
attribute [local go_sem ↓] wp_at_zero wp_at_succ
theorem getD_drop (zs:List Nat) (x i:Nat):(zs.drop x).getD i 0=zs.getD (x+i) 0:=by
 simp [List.getD_eq_getElem?_getD]
theorem common_same {zs:List Nat} {p x M c:Nat} (hp:p+M≤zs.length) (hx:x<p) (h:IsCommon (zs.drop x) ((zs.drop p).take M) c):c≤M∧Same (zf zs) p x c∧(c<M→¬ Same (zf zs) p x (c+1)):=by
 have hc:c≤M:=by have:=h.l2;simp at this;omega
 refine ⟨hc,fun i hi=>?_,fun hlt hs=>?_⟩
 ·have:=h.eq i hi
  rw [getD_drop,slice_get _ _ _ _ (by omega)] at this
  exact this
 ·have h1:=h.ne (by simp;omega) (by simp;omega)
  rw [getD_drop,slice_get _ _ _ _ hlt] at h1
  exact h1 (hs c (by omega))
theorem chain_step {zs:List Nat} (hz:∀ c∈zs,c<256) {p f M s n d x n' d' c':Nat} {left left':Int} (hp:p+M≤zs.length) (hs1:1≤s) (hsM:s≤M) (hfx:f≤x) (hx:Same (zf zs) p x s) (hn:n<M)
  (h:ChainAt (zf zs) p f M s n d (x+1)) (hw:Weighed zs p M x n d left n' d' left') (hc':c'=lastOf zs s x (keyAt zs s p)):ChainAt (zf zs) p f M s n' d' c'∧s≤n'∧left'≤left∧left - 1 - M≤left':=by
 have hxp:x<p:=by have:=h.cle;omega
 have hcx:c'≤x:=by rw [hc'];exact lastOf_le _ _ _ _
 have hno:=chain_none hz (show p+s≤zs.length by omega) (by omega) hc'
 rcases hw with ⟨h1,rfl,rfl,rfl⟩ | ⟨h1,c,hcm,rfl,hr⟩
 ·have hsn:s≤n':=by
   refine Classical.byContradiction fun hc=>h1 ?_
   exact hx n' (by omega)
  exact ⟨h.skip hcx (fun hs=>h1 (hs n' (by omega))) hno,hsn,by omega,by omega⟩
 ·obtain ⟨k1,k2,k3⟩:=common_same hp hxp hcm
  have hsc:s≤c:=by
   refine Classical.byContradiction fun hc=>?_
   exact k3 (by omega) (hx.mono (by omega))
  rcases hr with ⟨r1,rfl,rfl⟩ | ⟨r1,rfl,rfl⟩
  ·exact ⟨h.better hn hs1 hsM hcx hfx hx hno k2 k1 k3 r1,hsc,by omega,by omega⟩
  ·exact ⟨h.skip hcx (fun hs=>k3 (by omega) (hs.mono (by omega))) hno,by omega,by omega,by omega⟩
theorem row_cell {w:World} {B m:Nat} {v:Value} {zs:List Nat} {s:Nat} (h:w.ownsRow B 3 1 v m ((befs zs s m).map iv)) {x:Nat} (hx:x<m):∃ g c,v=.slice (some ⟨g,0,none⟩) m c∧v.ownBlock=some g∧w.cell? ⟨g,x,none⟩=some (.int .i64 ((lastOf zs s x (keyAt zs s x):Nat):Int)):=by
 rcases h.2 with ⟨e,e'⟩ | ⟨g,cap,cur,e,_,hh,_,_,_,ht⟩
 ·omega
 ·refine ⟨g,cap,e,by rw [e];rfl,?_⟩
  have h2:(cur.toList.take (m*1))[x]?=((befs zs s m).map iv)[x]?:=by rw [ht]
  rw [List.getElem?_take,if_pos (by omega),List.getElem?_map,befs_get zs s m x hx] at h2
  simp only [World.cell?,hh]
  simpa [iv] using h2
def EachIs (zs:List Nat) (H:Nat) (tx pc:Value) (p f M:Nat) (w:World) (e:Ending) (w':World):Prop :=
 ∃ (n d:Nat) (left:Int),e=.returned (.tuple #[])∧WB H tx pc p M left n d w'∧WKeep H w w'∧((n<M∧left≤0)∨IsBest (zf zs) p (p - f) M n d)∧n≤M
theorem each_ok (zs:List Nat) (H B ba off cap p f M s b c0:Nat) (v:Value) (w:World) (hr:ReadsU B w (.slice (some ⟨ba,off,none⟩) zs.length cap) zs) (hcap:zs.length≤cap) (hz:∀ c∈zs,c<256) (hl:zs.length≤100000000) (hp:p+M≤zs.length) (hs1:1≤s) (hsM:s≤M) (hBH:B≤H) (hHw:H≤w.heap.size)
  (hlv:LvlAt zs s p B w H 0 b v) (hv:∀ q,v.ownBlock=some q→q<H) (hc0:c0=lastOf zs s p (keyAt zs s p)) (hf:f<c0)
  (hb:WB H (.slice (some ⟨ba,off,none⟩) zs.length cap) (.slice (some ⟨ba,off+p,none⟩) M M) p M ((p:Int) - (f:Int)) 0 0 w) :
  Calls Tryz.prog 129 #[.pointer (some ⟨H,0,none⟩),.int .i64 ((c0:Int) - 1),.int .i64 (f:Int),.func (.func 128) #[] #[.pointer (some ⟨H+7,0,none⟩),.pointer (some ⟨H+5,0,none⟩),.pointer (some ⟨H+3,0,none⟩),.pointer (some ⟨H+6,0,none⟩),.pointer (some ⟨H+1,0,none⟩),.pointer (some ⟨H+4,0,none⟩),.pointer (some ⟨H+2,0,none⟩)]] w fun e w' =>
   EachIs zs H (.slice (some ⟨ba,off,none⟩) zs.length cap) (.slice (some ⟨ba,off+p,none⟩) M M) p f M w e w':=by
 have hc0p:c0≤p:=by rw [hc0];exact lastOf_le _ _ _ _
 have HST:Hid (ChainAt (zf zs) p f M s 0 0 c0):=qz (ChainAt.start hc0p (chain_none hz (by omega) (Nat.le_refl _) hc0))
 have HHIT:Hid (∀ x,lastOf zs s p (keyAt zs s p)=x+1→Same (zf zs) p x s∧keyAt zs s x=keyAt zs s p):=qz fun x hx=>⟨(chain_hit hz (by omega) (Nat.le_refl _) hx).2,(lastOf_hit _ _ _ _ _ hx).2⟩
 have HHIT2:Hid (∀ y x,y≤p→lastOf zs s y (keyAt zs s p)=x+1→Same (zf zs) p x s∧keyAt zs s x=keyAt zs s p):=qz fun y x hy hx=>⟨(chain_hit hz (by omega) hy hx).2,(lastOf_hit _ _ _ _ _ hx).2⟩
 have HR:=qz hr
 have HZ:=qz hz
 have HLV:=qz hlv
 have HV:=qz hv
 have HB:=qz hb
 clear hr hz hlv hv hb
 obtain ⟨tx,htx⟩:∃ tx:Value,tx=.slice (some ⟨ba,off,none⟩) zs.length cap:=⟨_,rfl⟩
 obtain ⟨pc,hpc⟩:∃ pc:Value,pc=.slice (some ⟨ba,off+p,none⟩) M M:=⟨_,rfl⟩
 rw [← htx,← hpc] at HB ⊢
 have HTX:=qz htx
 have HPC:=qz hpc
 clear htx hpc
 obtain ⟨L,hL⟩:∃ L,L=zs.length:=⟨_,rfl⟩
 rw [← hL] at hcap hl hp
 have HL:=qz hL
 have HC0:=qz hc0
 clear hL hc0
 go_enter Tryz.func129,Tryz.ntmps129
 go_wp2_with fail
 go_loopg [8] (c0+1) (fun gk d8 ws=>∃ (c n d:Nat) (left:Int),gk=c+1∧c≤p∧d8=.int .i64 ((c:Int) - 1)∧n<M∧0<left∧left≤p∧(f<c∨s≤n)∧Hid (ChainAt (zf zs) p f M s n d c)∧Hid (∃ y,y≤p∧c=lastOf zs s y (keyAt zs s p))∧WB H tx pc p M left n d ws∧WKeep H w ws)
 case atStart=>exact ⟨c0,0,0,_,rfl,hc0p,rfl,by omega,by omega,by omega,.inl hf,HST,qz ⟨p,Nat.le_refl _,uh HC0⟩,uh HB,WKeep.refl _ _⟩
 case round =>
  obtain ⟨c,n,d,left,rfl,hcp,rfl,hnM,hl0,hlp,hfc,HCH,HLO,hb,hk⟩:=hrel
  by_cases hlt:f<c
  ·obtain ⟨x,rfl⟩:∃ x,c=x+1:=⟨c - 1,by omega⟩
   have ex:((x+1:Nat):Int) - 1=(x:Int):=by omega
   rw [ex]
   clear ex
   have hxf:(f:Int)≤(x:Int):=by omega
   obtain ⟨y,hy,hyc⟩:=uh HLO
   obtain ⟨hsame,hkey⟩:=uh HHIT2 y x hy hyc.symm
   have hrd:ReadsU B wr (.slice (some ⟨ba,off,none⟩) zs.length cap) zs:=(uh HR).stays ⟨hk.os,hk.tape,hk.output,hk.size,fun i hi=>hk.kp i (by omega) (by omega) (by omega) (by omega)⟩
   have HCALL:=qz (weigh_ok zs H B ba off cap p M x n d left wr hrd (by rw [← uh HL];exact hcap) (by rw [← uh HL];exact hl) (by rw [← uh HL];exact hp) (by omega) hnM hBH (by have:=hk.size;omega) (by omega) (by rw [← uh HTX,← uh HPC];exact hb))
   rw [← uh HTX,← uh HPC] at HCALL
   have HSTEP:Hid (∀ n' d' left',Weighed zs p M x n d left n' d' left'→ChainAt (zf zs) p f M s n' d' (lastOf zs s x (keyAt zs s p))∧s≤n'∧left'≤left∧left - 1 - M≤left'):=qz fun n' d' left' hw=>chain_step (uh HZ) (by rw [← uh HL];exact hp) hs1 hsM (by omega) hsame hnM (uh HCH) hw rfl
   obtain ⟨g,cp,hvv,hob,hcell⟩:=row_cell (uh HLV).row (show x<p by omega)
   have HLVR:=qz (LvlAt.c2 (uh HLV))
   have hHl:H<w.heap.size:=cell_lt (uh HLVR)
   have HKW:=qz hk
   have hxp:x<p:=by omega
   clear hb hk hrd hyc hsame HLO HCH hy
   go_wp2_with fail
   refine (uh HCALL).mono ?_
   rintro e w' ⟨r,n',d',left',rfl,hb',hw',hr',hk'⟩
   obtain ⟨hch',hsn',hl1,hl2⟩:=uh HSTEP _ _ _ hw'
   have hkw:=(uh HKW).trans hk'
   have q2:w'.cell? ⟨H,2,none⟩=some v:=by rw [World.cell?_of_block (hkw.kp H hHl (by omega) (by omega) (by omega))];exact uh HLVR
   have hgH:=uh HV g hob
   have q3:w'.cell? ⟨g,x,none⟩=some (.int .i64 ((lastOf zs s x (keyAt zs s x):Nat):Int)):=by rw [World.cell?_of_block (hkw.kp g (cell_lt hcell) (by show g≠_;omega) (by show g≠_;omega) (by show g≠_;omega))];exact hcell
   rw [hvv] at q2
   rw [hkey] at q3
   have hzl:lastOf zs s x (keyAt zs s p)≤x:=lastOf_le _ _ _ _
   have HLO':Hid (∃ y,y≤p∧lastOf zs s x (keyAt zs s p)=lastOf zs s y (keyAt zs s p)):=qz ⟨x,by omega,rfl⟩
   have HCH':=qz hch'
   have HB':=qz hb'
   have HK':=qz hkw
   obtain ⟨c',hc'⟩:∃ c',c'=lastOf zs s x (keyAt zs s p):=⟨_,rfl⟩
   rw [← hc'] at q3 hzl HLO' HCH'
   have hxpi:(x:Int)<(p:Int):=by omega
   have hw1:IntKind.i64.wrap ((c':Int) - 1)=(c':Int) - 1:=IntWalk.i64_in _ (by omega)
   clear hch' hb' hkw hk' hw' HCALL HSTEP HKW hcell hkey hc' HLVR hvv hob hgH
   rcases hr' with ⟨rfl,hn',hl'⟩ | ⟨rfl,hor⟩
   ·go_wp2_with fail
    go_roundg (c'+1)
    case measure=>omega
    case rel=>exact ⟨c',n',d',left',rfl,by omega,rfl,hn',hl',by omega,.inr hsn',HCH',HLO',uh HB',uh HK'⟩
   ·have HE:Hid (EachIs zs H tx pc p f M w (.returned (.tuple #[])) w'):=qz ⟨n',d',left',rfl,uh HB',uh HK',by
     by_cases hn':n'<M
     ·exact .inl ⟨hn',by omega⟩
     ·exact .inr ((uh HCH').best hs1 hsn' (.inr (by have:=(uh HCH').nle;omega))),(uh HCH').nle⟩
    clear hor HB' HK' HCH' HLO'
    go_wp2_with fail
    go_end0
    exact uh HE
  ·have hcf:¬ (f:Int)≤(c:Int) - 1:=by omega
   have HE:Hid (EachIs zs H tx pc p f M w (.returned (.tuple #[])) wr):=qz ⟨n,d,left,rfl,hb,hk,.inr ((uh HCH).best hs1 (by omega) (.inl (by omega))),by omega⟩
   clear hb hk HCH HLO
   go_wp2_with fail
   go_end0
   exact uh HE
end T6
namespace T6
open Go.RowKit Go.Maps
attribute [local go_sem ↓] wp_at_zero wp_at_succ
theorem heap_alloc_at (w:World) (o:Obj) (i:Nat):(w.alloc o).heap[i]?=if i=w.heap.size then some o else w.heap[i]?:=by
 by_cases e:i=w.heap.size
 ·rw [if_pos e,e];exact heap_alloc_new _ _
 ·rw [if_neg e]
  rcases Nat.lt_or_ge i w.heap.size with h | h
  ·exact Below.heap_alloc _ _ _ h
  ·rw [Array.getElem?_eq_none (by simp;omega),Array.getElem?_eq_none h]
theorem results_two {fn:Func} {a b:Tmp} (h:fn.results=#[.cell a 3,.cell b 3]) (tmps:Array Value) (w:World) (ad bd:Addr) (ha:tmps.getD a undef=.pointer (some ad)) (hb:tmps.getD b undef=.pointer (some bd)) (x y:Int) (hx:w.cell? ad=some (.int .i64 x)) (hy:w.cell? bd=some (.int .i64 y)) :
  (results fn tmps).run Tryz.prog w=.ok (.tuple #[.int .i64 x,.int .i64 y]) w:=by
 simp only [results,h]
 simp only [List.mapM_toArray,List.mapM_cons,List.mapM_nil]
 simp only [ha,hb]
 go_simp
theorem look_seek (zs:List Nat) (a:Option Addr) (cap B P V K:Nat) (w:World) (hr:ReadsU B w (.slice a zs.length cap) zs) (hcap:zs.length≤cap) (hz:∀ z∈zs,z<256) (hl:zs.length<4294967281) (hP:P≤zs.length) (hV:V≤9223372036854775807) (hK:K≤9223372036854775807) (hm:ML w) :
  ∃ T u:Nat,Calls Tryz.prog 62 #[.slice a zs.length cap,.int .i64 (P:Int),.int .i64 (V:Int),.int .i64 (K:Int)] w fun e w'=>∃ a',e=.returned (.tuple #[.slice a' T T,.int .i64 (u:Int)])∧w'=w ∧
   ∀ q,Calls Tryz.prog 95 #[.slice a' T T,.int .i64 (u:Int)] (w.drewN q) fun e w'=>∃ n d:Nat,e=.returned (.tuple #[.int .i64 (n:Int),.int .i64 (d:Int)])∧IsBest (zf zs) P (min P V) (min K (zs.length - P)) n d∧∃ q,w'=w.drewN q:=by
 refine ⟨min P V+min K (zs.length - P),min P V,(look_ok zs a cap B P V K w hr hcap hP (by omega) hV hK).mono ?_⟩
 rintro e w' ⟨a',rfl,ha,rfl⟩
 refine ⟨a',rfl,rfl,fun q=>?_⟩
 have hln:((zs.drop (P - min P V)).take (min P V+min K (zs.length - P))).length=min P V+min K (zs.length - P):=by simp;omega
 have:=seek_ok ((zs.drop (P - min P V)).take (min P V+min K (zs.length - P))) a' B (min P V) (w'.drewN q) (by rw [hln];exact ha.drewN q) (fun z h=>hz z (List.mem_of_mem_drop (List.mem_of_mem_take h))) (by rw [hln];omega) (by rw [hln];omega) (hm.drewN q)
 rw [hln] at this
 refine this.mono ?_
 rintro e w'' ⟨n,d,rfl,hb,q',rfl⟩
 refine ⟨n,d,rfl,?_,q+q',by rw [World.drewN_drewN]⟩
 rw [show min P V+min K (zs.length - P) - min P V=min K (zs.length - P) by omega] at hb
 have h5:=hb.shift (z:=zf zs) (f:=P - min P V) (Nat.le_refl _) (fun i hi=>slice_get _ _ _ _ hi)
 rw [show P - min P V+min P V=P by omega] at h5
 exact h5
def WalkIs (zs:List Nat) (p u M:Nat) (w:World) (e:Ending) (w':World):Prop:=∃ n d:Nat,e=.returned (.tuple #[.int .i64 (n:Int),.int .i64 (d:Int)])∧IsBest (zf zs) p u M n d∧Below w.heap.size w w'
theorem walk_ok (zs:List Nat) (B ba off cap p W M s b c0 gx g o:Nat) (v:Value) (w:World) (hr:ReadsU B w (.slice (some ⟨ba,off,none⟩) zs.length cap) zs) (hcap:zs.length≤cap) (hz:∀ c∈zs,c<256) (hl:zs.length≤100000000) (hp:p+M≤zs.length) (hs1:1≤s) (hsM:s≤M) (hB:B≤w.heap.size) (hW:W≤9223372036854775807)
  (hx0:w.cell? ⟨gx,0,none⟩=some (.slice (some ⟨ba,off,none⟩) zs.length cap)) (hx1:w.cell? ⟨gx,1,none⟩=some (.int .i64 (W:Int)))
  (hlv:LvlAt zs s p B w g o b v) (hc0:c0=lastOf zs s p (keyAt zs s p)) (hf:p - min p W<c0) (hm:ML w) :
  Calls Tryz.prog 99 #[.pointer (some ⟨gx,0,none⟩),.agg #[.int .i64 (s:Int),.map (some b),v],.int .i64 ((c0:Int) - 1),.int .i64 (p:Int),.int .i64 (M:Int)] w fun e w'=>WalkIs zs p (min p W) M w e w':=by
 obtain ⟨H,hH⟩:∃ H,H=w.heap.size:=⟨_,rfl⟩
 have HR:=qz hr
 have HZ:=qz hz
 have HLV:=qz hlv
 have HML:=qz hm
 obtain ⟨L,htx⟩:∃ L,L=zs.length:=⟨_,rfl⟩
 rw [← htx] at hx0 HR hcap hl hp
 have HX0:=qz hx0
 have HX1:=qz hx1
 have HTX:=qz htx
 have HHW:=qz hH
 have HC0:=qz hc0
 have HCM:Hid (M<100000001):=qz (by omega)
 clear hr hz hlv hm htx hx0 hx1 hH hc0
 obtain ⟨u,hu⟩:∃ u,u=min p W:=⟨_,rfl⟩
 rw [← hu] at hf ⊢
 have m1:=run_min_nat (A:=(p:Int)) (B:=(W:Int)) rfl rfl hu
 obtain ⟨f,hff⟩:∃ f:Nat,(p:Int) - (u:Int)=(f:Int):=⟨p - u,by omega⟩
 have hfp:p - u=f:=by omega
 rw [hfp] at hf
 have hpf:p - f=u:=by omega
 have HU:=qz hu
 clear hu hfp
 go_enter Tryz.func99,Tryz.ntmps99
 go_upto_region 1 with fail
 have e4:w.heap.size+1+1+1+1=H+4:=by rw [uh HHW]
 have e3:w.heap.size+1+1+1=H+3:=by rw [uh HHW]
 have e2:w.heap.size+1+1=H+2:=by rw [uh HHW]
 have e1:w.heap.size+1=H+1:=by rw [uh HHW]
 have e0:w.heap.size=H:=(uh HHW).symm
 rw [e4,e3,e2,e1,e0]
 generalize hW5:(((((w.alloc (.cells #[.int .i64 (s:Int),.map (some b),v] 162)).alloc (.cells #[.int .i64 (p:Int)] 3)).alloc (.cells #[.int .i64 (M:Int)] 3)).alloc (.cells #[.int .i64 0] 3)).alloc (.cells #[.int .i64 0] 3))=W5
 have HA:Hid (W5.heap[H]?=some (.cells #[.int .i64 (s:Int),.map (some b),v] 162 (0,0))∧W5.heap[H+1]?=some (.cells #[.int .i64 (p:Int)] 3 (0,0))∧W5.heap[H+2]?=some (.cells #[.int .i64 (M:Int)] 3 (0,0))∧W5.heap[H+3]?=some (.cells #[.int .i64 ((0:Nat):Int)] 3 (0,0))∧W5.heap[H+4]?=some (.cells #[.int .i64 ((0:Nat):Int)] 3 (0,0))):=qz (by
  rw [← hW5,uh HHW]
  refine ⟨?_,?_,?_,?_,?_⟩ <;> simp only [heap_alloc_at,World.size_alloc] <;> (repeat (first | rw [if_pos (by omega)] | rw [if_neg (by omega)])) <;> rfl)
 have HSZ5:Hid (W5.heap.size=H+5):=qz (by rw [← hW5,uh HHW];simp)
 have HBL5:Hid (Below H w W5):=qz (by
  rw [← hW5]
  exact (((((Below.refl _ _).alloc (by omega) _).alloc (by simp;omega) _).alloc (by simp;omega) _).alloc (by simp;omega) _).alloc (by simp;omega) _)
 clear hW5 e0 e1 e2 e3 e4
 have hBH:B≤H:=by rw [uh HHW];exact hB
 have hgxH:gx<H:=by rw [uh HHW];exact cell_lt (uh HX0)
 have HS1:Hid (W5.drew.cell? ⟨H+1,0,none⟩=some (.int .i64 (p:Int))∧W5.drew.cell? ⟨gx,0,none⟩=some (.slice (some ⟨ba,off,none⟩) L cap)∧W5.drew.cell? ⟨gx,1,none⟩=some (.int .i64 (W:Int))):=qz (by
  refine ⟨?_,?_,?_⟩
  ·show W5.cell? _=_
   simp [World.cell?,(uh HA).2.1]
  ·show W5.cell? _=_
   exact cell_below (uh HBL5) (uh HX0) hgxH
  ·show W5.cell? _=_
   exact cell_below (uh HBL5) (uh HX1) hgxH)
 have HK1:Hid (∀ (y:World) (O:Obj),(y.cell? ⟨H+1,0,none⟩=some (.int .i64 (p:Int))∧y.cell? ⟨gx,0,none⟩=some (.slice (some ⟨ba,off,none⟩) L cap)∧y.cell? ⟨gx,1,none⟩=some (.int .i64 (W:Int)))→((y.alloc O).cell? ⟨H+1,0,none⟩=some (.int .i64 (p:Int))∧(y.alloc O).cell? ⟨gx,0,none⟩=some (.slice (some ⟨ba,off,none⟩) L cap)∧(y.alloc O).cell? ⟨gx,1,none⟩=some (.int .i64 (W:Int)))):=qz fun y O h=>by
  have hb:=(Below.refl y.heap.size y).alloc (Nat.le_refl _) O
  exact ⟨cell_stays hb h.1,cell_stays hb h.2.1,cell_stays hb h.2.2⟩
 have HK2:Hid (∀ (y:World) (x:Value),(y.cell? ⟨H+1,0,none⟩=some (.int .i64 (p:Int))∧y.cell? ⟨gx,0,none⟩=some (.slice (some ⟨ba,off,none⟩) L cap)∧y.cell? ⟨gx,1,none⟩=some (.int .i64 (W:Int)))→((y.setCell ⟨H+5,0,none⟩ x).cell? ⟨H+1,0,none⟩=some (.int .i64 (p:Int))∧(y.setCell ⟨H+5,0,none⟩ x).cell? ⟨gx,0,none⟩=some (.slice (some ⟨ba,off,none⟩) L cap)∧(y.setCell ⟨H+5,0,none⟩ x).cell? ⟨gx,1,none⟩=some (.int .i64 (W:Int)))):=qz fun y x h=>by
  refine ⟨?_,?_,?_⟩
  ·rw [World.cell?_of_block (heap_setCell_other _ _ _ _ (by show H+1≠H+5;omega))];exact h.1
  ·rw [World.cell?_of_block (heap_setCell_other _ _ _ _ (by show gx≠H+5;omega))];exact h.2.1
  ·rw [World.cell?_of_block (heap_setCell_other _ _ _ _ (by show gx≠H+5;omega))];exact h.2.2
 have hwf:IntKind.i64.wrap (f:Int)=(f:Int):=IntWalk.i64_in _ (by omega)
 refine wp_region_noPanic ?_
 refine wp_region_held_drew (S:=fun y=>y.cell? ⟨H+1,0,none⟩=some (.int .i64 (p:Int))∧y.cell? ⟨gx,0,none⟩=some (.slice (some ⟨ba,off,none⟩) L cap)∧y.cell? ⟨gx,1,none⟩=some (.int .i64 (W:Int))) (by kernel_rfl) (uh HS1) (fun hHeld=>?_)
 refine hT 0 17 rfl rfl hHeld nPp (v:=?_) (fun x' hSx=>?_) ?_
 rotate_left 1
 ·(obtain ⟨q1,q2,q3⟩:=hSx;go_simp <;> with_reducible rfl)
 simp only [sA,sB]
 refine hT 1 18 rfl rfl hHeld nPp (v:=?_) (fun x' hSx=>?_) ?_
 rotate_left 1
 ·(obtain ⟨q1,q2,q3⟩:=hSx;go_simp <;> with_reducible rfl)
 simp only [sA,sB]
 refine hT 2 19 rfl rfl hHeld nPp (v:=?_) (fun x' hSx=>?_) ?_
 rotate_left 1
 ·(obtain ⟨q1,q2,q3⟩:=hSx;go_simp <;> with_reducible rfl)
 simp only [sA,sB]
 refine hT 3 20 rfl rfl hHeld nPp (v:=?_) (fun x' hSx=>?_) ?_
 rotate_left 1
 ·(obtain ⟨q1,q2,q3⟩:=hSx;go_simp <;> with_reducible rfl)
 simp only [sA,sB]
 refine hT 4 21 rfl rfl hHeld nPp (v:=?_) (fun x' hSx=>?_) ?_
 rotate_left 1
 ·(obtain ⟨q1,q2,q3⟩:=hSx;go_simp <;> with_reducible rfl)
 simp only [sA,sB]
 refine hT 5 22 rfl rfl hHeld nPp (v:=?_) (fun x' hSx=>?_) ?_
 rotate_left 1
 ·(obtain ⟨q1,q2,q3⟩:=hSx;go_simp <;> with_reducible rfl)
 simp only [sA,sB]
 refine hT 6 23 rfl rfl hHeld nPp (v:=?_) (fun x' hSx=>?_) ?_
 rotate_left 1
 ·(obtain ⟨q1,q2,q3⟩:=hSx;go_simp <;> with_reducible rfl)
 simp only [sA,sB]
 refine hT 7 24 rfl rfl hHeld nPp (v:=?_) (fun x' hSx=>?_) ?_
 rotate_left 1
 ·(obtain ⟨q1,q2,q3⟩:=hSx;go_simp <;> with_reducible rfl)
 simp only [sA,sB]
 refine hT 8 25 rfl rfl hHeld nPp (v:=?_) (fun x' hSx=>?_) ?_
 rotate_left 1
 ·(obtain ⟨q1,q2,q3⟩:=hSx;go_simp <;> with_reducible rfl)
 simp only [sA,sB]
 refine hT 9 26 rfl rfl hHeld nPp (v:=?_) (fun x' hSx=>?_) ?_
 rotate_left 1
 ·(obtain ⟨q1,q2,q3⟩:=hSx;go_simp <;> with_reducible rfl)
 simp only [sA,sB]
 refine hT 10 27 rfl rfl hHeld nPp (v:=?_) (fun x' hSx=>?_) ?_
 rotate_left 1
 ·(obtain ⟨q1,q2,q3⟩:=hSx;go_simp <;> with_reducible rfl)
 simp only [sA,sB]
 refine hT 11 28 rfl rfl hHeld nPp (v:=?_) (fun x' hSx=>?_) ?_
 rotate_left 1
 ·(obtain ⟨q1,q2,q3⟩:=hSx;go_simp <;> with_reducible rfl)
 simp only [sA,sB]
 obtain ⟨Wd,hWd⟩:∃ Wd,Wd=W5.drew:=⟨_,rfl⟩
 rw [← hWd] at hHeld ⊢
 have HH5:Hid (Wd.heap.size=H+5):=qz (by rw [hWd];exact uh HSZ5)
 have HWD:=qz hWd
 clear hWd
 refine held_one 12 12 (by kernel_rfl) rfl rfl (by rfl) (v:=.pointer (some ⟨Wd.heap.size,0,none⟩)) (w':=Wd.alloc (.cells #[.slice none 0 0] 22)) ?_ (uh HK1 _ _ hHeld) ?_
 ·go_simp <;> exact ⟨rfl,rfl⟩
 simp only [sA,sB]
 rw [uh HH5]
 refine held_skip 13 (by kernel_rfl) rfl rfl (by rfl) (w':=(Wd.alloc (.cells #[.slice none 0 0] 22)).setCell ⟨H+5,0,none⟩ (.slice (some ⟨ba,off,none⟩) L cap)) ?_ (uh HK2 _ _ (uh HK1 _ _ hHeld)) ?_
 ·(have q1:(Wd.alloc (.cells #[.slice none 0 0] 22)).cell? ⟨H+5,0,none⟩=some (.slice none 0 0):=(by rw [← uh HH5];simp only [World.cell?,heap_alloc_new];try rfl);have q2:(Wd.alloc (.cells #[.slice none 0 0] 22)).frozen? ⟨H+5,0,none⟩=false:=(by rw [← uh HH5];simp only [World.frozen?,heap_alloc_new];simp);go_simp)
 have hHeld:=uh HK2 (Wd.alloc (.cells #[.slice none 0 0] 22)) (.slice (some ⟨ba,off,none⟩) L cap) (uh HK1 _ _ hHeld)
 refine hT 14 13 rfl rfl hHeld nPp (v:=?_) (fun x' hSx=>?_) ?_
 rotate_left 1
 ·(go_simp <;> with_reducible rfl)
 simp only [sA,sB]
 refine wpAnyH_done (by kernel_rfl) ?_ _
 refine NoPanic.normal ?_
 obtain ⟨W6,hW6⟩:∃ W6,W6=(Wd.alloc (.cells #[.slice none 0 0] 22)).setCell ⟨H+5,0,none⟩ (.slice (some ⟨ba,off,none⟩) L cap):=⟨_,rfl⟩
 rw [← hW6] at hHeld ⊢
 have HK6:Hid (∀ i,i≠H+5→i<H+5→W6.heap[i]?=W5.heap[i]?):=qz fun i hi hi2=>by
  rw [hW6,heap_setCell_other _ _ _ _ (by exact hi),Below.heap_alloc _ _ _ (by rw [uh HH5];exact hi2),uh HWD]
  rfl
 have HB65:Hid (W6.heap[H+5]?=some (.cells #[.slice (some ⟨ba,off,none⟩) L cap] 22 (0,0))∧W6.heap.size=H+6∧W6.os=W5.os∧W6.tape=W5.tape∧W6.output=W5.output):=qz (by
  refine ⟨?_,?_,?_,?_,?_⟩
  ·rw [hW6,heap_setCell_same _ (H+5) 0 #[.slice none 0 0] 22 _ (by rw [← uh HH5];exact heap_alloc_new _ _)]
   rfl
  ·rw [hW6];simp [uh HH5]
  ·rw [hW6,uh HWD];rfl
  ·rw [hW6,uh HWD];rfl
  ·rw [hW6,uh HWD];rfl)
 clear hW6 HWD HH5 HK1 HK2 HS1 hHeld
 have HBL6:Hid (Below H w W6):=qz ⟨(uh HB65).2.2.1.trans (uh HBL5).os,(uh HB65).2.2.2.1.trans (uh HBL5).tape,(uh HB65).2.2.2.2.trans (uh HBL5).output,by rw [(uh HB65).2.1,← uh HHW];omega,fun k hk=>by rw [uh HK6 k (by omega) (by omega)];exact (uh HBL5).block k hk⟩
 have HA6:Hid (W6.heap[H]?=some (.cells #[.int .i64 (s:Int),.map (some b),v] 162 (0,0))∧W6.heap[H+1]?=some (.cells #[.int .i64 (p:Int)] 3 (0,0))∧W6.heap[H+2]?=some (.cells #[.int .i64 (M:Int)] 3 (0,0))∧W6.heap[H+3]?=some (.cells #[.int .i64 ((0:Nat):Int)] 3 (0,0))∧W6.heap[H+4]?=some (.cells #[.int .i64 ((0:Nat):Int)] 3 (0,0))):=qz (by
  have h:=uh HA
  refine ⟨?_,?_,?_,?_,?_⟩
  ·rw [uh HK6 _ (by omega) (by omega)];exact h.1
  ·rw [uh HK6 _ (by omega) (by omega)];exact h.2.1
  ·rw [uh HK6 _ (by omega) (by omega)];exact h.2.2.1
  ·rw [uh HK6 _ (by omega) (by omega)];exact h.2.2.2.1
  ·rw [uh HK6 _ (by omega) (by omega)];exact h.2.2.2.2)
 have c1:W6.cell? ⟨H+1,0,none⟩=some (.int .i64 (p:Int)):=by simp [World.cell?,(uh HA6).2.1]
 have c2:W6.cell? ⟨H+2,0,none⟩=some (.int .i64 (M:Int)):=by simp [World.cell?,(uh HA6).2.2.1]
 have c5:W6.cell? ⟨H+5,0,none⟩=some (.slice (some ⟨ba,off,none⟩) L cap):=by simp [World.cell?,(uh HB65).1]
 have hs6:W6.heap.size=H+6:=(uh HB65).2.1
 obtain ⟨E,hE⟩:∃ E:Nat,(p:Int)+(M:Int)=(E:Int):=⟨p+M,by omega⟩
 have hEp:E - p=M:=by omega
 have hpEc:p≤E∧E≤cap:=⟨by omega,by omega⟩
 have hpE:=hpEc.1
 have hEc:=hpEc.2
 have hwE:IntKind.i64.wrap (E:Int)=(E:Int):=IntWalk.i64_in _ (by omega)
 have hwu:IntKind.i64.wrap (u:Int)=(u:Int):=IntWalk.i64_in _ (by omega)
 have hM0:¬ M=0:=by omega
 have hpfu:(p:Int) - (f:Int)=(u:Int):=by omega
 clear HK6 HA HBL5 HSZ5
 go_upto_region 5 with fail
 rw [show H+6+1=H+7 from rfl]
 generalize hW8:(W6.alloc (.cells #[.slice (some ⟨ba,off+p,none⟩) M M] 22)).alloc (.cells #[.int .i64 (u:Int)] 3)=W8
 have hk8:∀ i,i<H+6→W8.heap[i]?=W6.heap[i]?:=fun i hi=>by
  rw [← hW8,heap_alloc_at,if_neg (by rw [World.size_alloc];omega),heap_alloc_at,if_neg (by omega)]
 have hwb:WB H (.slice (some ⟨ba,off,none⟩) L cap) (.slice (some ⟨ba,off+p,none⟩) M M) p M ((p:Int) - (f:Int)) 0 0 W8:=by
  have h:=uh HA6
  refine ⟨by rw [hk8 _ (by omega)];exact h.2.1,by rw [hk8 _ (by omega)];exact h.2.2.1,by rw [hk8 _ (by omega)];exact h.2.2.2.1,by rw [hk8 _ (by omega)];exact h.2.2.2.2,by rw [hk8 _ (by omega)];exact (uh HB65).1,?_,?_⟩
  ·rw [← hW8,heap_alloc_at,if_neg (by rw [World.size_alloc];omega),heap_alloc_at,if_pos (by omega)]
  ·rw [← hW8,heap_alloc_at,if_pos (by rw [World.size_alloc];omega),hpfu]
 have hbl8:Below H w W8:=by
  have h6:=uh HBL6
  refine ⟨?_,?_,?_,?_,fun k hk=>?_⟩
  ·rw [← hW8];exact h6.os
  ·rw [← hW8];exact h6.tape
  ·rw [← hW8];exact h6.output
  ·rw [← hW8];simp;have:=h6.size;omega
  ·rw [hk8 k (by omega)];exact h6.block k hk
 have hs8:W8.heap.size=H+8:=by rw [← hW8];simp [hs6]
 have hr8:ReadsU B W8 (.slice (some ⟨ba,off,none⟩) zs.length cap) zs:=by
  have h:=uh HR
  rw [uh HTX] at h
  exact h.stays ⟨hbl8.os,hbl8.tape,hbl8.output,hbl8.size,fun k hk=>hbl8.block k (by omega)⟩
 have hlv0:=uh HLV
 have hv8:∀ q,v.ownBlock=some q→q<H:=fun q hq=>by
  obtain ⟨_,cs,ff,hh⟩:=own_base hlv0.row hq
  rw [uh HHW]
  exact heap_lt hh
 have hlv8:LvlAt zs s p B W8 H 0 b v:=by
  have h0:W8.heap[H]?=some (.cells #[.int .i64 (s:Int),.map (some b),v] 162 (0,0)):=by rw [hk8 _ (by omega)];exact (uh HA6).1
  obtain ⟨es,ck,hb⟩:=hlv0.mp.is
  exact ⟨by simp [World.cell?,h0],by simp [World.cell?,h0],by simp [World.cell?,h0],hlv0.mp.block (hbl8.block _ (by rw [uh HHW];exact heap_lt hb)),own_keep hlv0.row (fun q hq=>hbl8.block _ (hv8 q hq))⟩
 have HEA:=qz (each_ok zs H B ba off cap p f M s b c0 v W8 hr8 (by rw [← uh HTX];exact hcap) (uh HZ) (by rw [← uh HTX];exact hl) (by rw [← uh HTX];exact hp) hs1 hsM (by omega) (by omega) hlv8 hv8 (uh HC0) hf (by rw [← uh HTX];exact hwb))
 rw [← uh HTX] at HEA
 have HBL8:=qz hbl8
 have HR8:=qz hr8
 clear hW8 hk8 hwb hbl8 hr8 hlv0 hv8 hlv8 HA6 HB65 HBL6 c1 c2 c5 HLV
 go_wp2_with fail
 refine (uh HEA).mono ?_
 rintro e W9 ⟨n,d,left,rfl,hb9,hk9,hcase,hnM⟩
 have HBL9:Hid (Below H w W9):=qz ⟨hk9.os.trans (uh HBL8).os,hk9.tape.trans (uh HBL8).tape,hk9.output.trans (uh HBL8).output,Nat.le_trans (uh HBL8).size hk9.size,fun k hk=>by rw [hk9.kp k (by omega) (by omega) (by omega) (by omega)];exact (uh HBL8).block k hk⟩
 have HR9:Hid (ReadsU B W9.drew (.slice (some ⟨ba,off,none⟩) zs.length cap) zs):=qz ((uh HR8).stays ⟨hk9.os,hk9.tape,hk9.output,hk9.size,fun k hk=>hk9.kp k (by omega) (by omega) (by omega) (by omega)⟩)
 have HB9:=qz hb9
 have c2:=hb9.c2
 have c3:=hb9.c3
 have c7:=hb9.c7
 clear hb9 hk9 HEA HR8 HBL8
 by_cases ht:n<M∧left≤0
 ·obtain ⟨ht1,ht2⟩:=ht
  have ht1i:(n:Int)<(M:Int):=by omega
  have HLK:Hid (∃ T t:Nat,Calls Tryz.prog 62 #[.slice (some ⟨ba,off,none⟩) L cap,.int .i64 (p:Int),.int .i64 (W:Int),.int .i64 (M:Int)] W9.drew fun e w'=>∃ a',e=.returned (.tuple #[.slice a' T T,.int .i64 (t:Int)])∧w'=W9.drew ∧
   ∀ q,Calls Tryz.prog 95 #[.slice a' T T,.int .i64 (t:Int)] (W9.drew.drewN q) fun e w'=>∃ n d:Nat,e=.returned (.tuple #[.int .i64 (n:Int),.int .i64 (d:Int)])∧IsBest (zf zs) p u M n d∧∃ q,w'=W9.drew.drewN q):=qz (by
   have hml:ML W9.drew:=by
    obtain ⟨m,hm⟩:=uh HML
    exact ⟨m,cell_below (uh HBL9) hm (by have:=cell_lt hm;rw [uh HHW];exact this)⟩
   have:=look_seek zs (some ⟨ba,off,none⟩) cap B p W M W9.drew (uh HR9) (by rw [← uh HTX];exact hcap) (uh HZ) (by rw [← uh HTX];omega) (by rw [← uh HTX];omega) hW (by omega) hml
   rw [← uh HU,← uh HTX,show min M (L - p)=M by omega] at this
   exact this)
  have HS7:Hid (W9.drew.cell? ⟨H+5,0,none⟩=some (.slice (some ⟨ba,off,none⟩) L cap)∧W9.drew.cell? ⟨H+1,0,none⟩=some (.int .i64 (p:Int))∧W9.drew.cell? ⟨gx,1,none⟩=some (.int .i64 (W:Int))∧W9.drew.cell? ⟨H+2,0,none⟩=some (.int .i64 (M:Int))):=qz ⟨(uh HB9).c5,(uh HB9).c1,cell_below (uh HBL9) (uh HX1) hgxH,(uh HB9).c2⟩
  clear hcase
  go_upto_region 7 with fail
  refine wp_region_noPanic ?_
  refine wp_region_held_drew (S:=fun y=>y.cell? ⟨H+5,0,none⟩=some (.slice (some ⟨ba,off,none⟩) L cap)∧y.cell? ⟨H+1,0,none⟩=some (.int .i64 (p:Int))∧y.cell? ⟨gx,1,none⟩=some (.int .i64 (W:Int))∧y.cell? ⟨H+2,0,none⟩=some (.int .i64 (M:Int))) (by kernel_rfl) (uh HS7) (fun hHeld=>?_)
  refine hT 0 53 rfl rfl hHeld nPp (v:=?_) (fun x' hSx=>?_) ?_
  rotate_left 1
  ·(obtain ⟨q1,q2,q3,q4⟩:=hSx;go_simp <;> with_reducible rfl)
  simp only [sA,sB]
  refine hT 1 54 rfl rfl hHeld nPp (v:=?_) (fun x' hSx=>?_) ?_
  rotate_left 1
  ·(obtain ⟨q1,q2,q3,q4⟩:=hSx;go_simp <;> with_reducible rfl)
  simp only [sA,sB]
  refine hT 2 55 rfl rfl hHeld nPp (v:=?_) (fun x' hSx=>?_) ?_
  rotate_left 1
  ·(obtain ⟨q1,q2,q3,q4⟩:=hSx;go_simp <;> with_reducible rfl)
  simp only [sA,sB]
  refine hT 3 56 rfl rfl hHeld nPp (v:=?_) (fun x' hSx=>?_) ?_
  rotate_left 1
  ·(obtain ⟨q1,q2,q3,q4⟩:=hSx;go_simp <;> with_reducible rfl)
  simp only [sA,sB]
  refine hT 4 57 rfl rfl hHeld nPp (v:=?_) (fun x' hSx=>?_) ?_
  rotate_left 1
  ·(obtain ⟨q1,q2,q3,q4⟩:=hSx;go_simp <;> with_reducible rfl)
  simp only [sA,sB]
  refine hT 5 58 rfl rfl hHeld nPp (v:=?_) (fun x' hSx=>?_) ?_
  rotate_left 1
  ·(obtain ⟨q1,q2,q3,q4⟩:=hSx;go_simp <;> with_reducible rfl)
  simp only [sA,sB]
  refine hT 6 59 rfl rfl hHeld nPp (v:=?_) (fun x' hSx=>?_) ?_
  rotate_left 1
  ·(obtain ⟨q1,q2,q3,q4⟩:=hSx;go_simp <;> with_reducible rfl)
  simp only [sA,sB]
  obtain ⟨T,t,hlk⟩:=uh HLK
  refine held_enter 7 60 (by kernel_rfl) rfl rfl (by rfl) (by go_simp <;> exact ⟨rfl,rfl⟩) ?_
  refine hlk.mono ?_
  rintro e w' ⟨a',rfl,hww,hsk⟩
  replace hww:=hww.symm
  subst hww
  refine ⟨_,rfl,hHeld,?_⟩
  simp only [sA,sB]
  refine hT 8 61 rfl rfl hHeld nPp (v:=?_) (fun x' hSx=>?_) ?_
  rotate_left 1
  ·(go_simp <;> with_reducible rfl)
  simp only [sA,sB]
  refine hT 9 62 rfl rfl hHeld nPp (v:=?_) (fun x' hSx=>?_) ?_
  rotate_left 1
  ·(go_simp <;> with_reducible rfl)
  simp only [sA,sB]
  have HSK:=qz (hsk 0)
  clear hsk hlk
  refine held_enter 10 63 (by kernel_rfl) rfl rfl (by rfl) (by go_simp <;> exact ⟨rfl,rfl⟩) ?_
  refine (uh HSK).mono ?_
  rintro e w' ⟨n2,d2,rfl,hbest,q,rfl⟩
  refine ⟨_,rfl,hHeld,?_⟩
  simp only [sA,sB]
  refine hT 11 64 rfl rfl hHeld nPp (v:=?_) (fun x' hSx=>?_) ?_
  rotate_left 1
  ·(go_simp <;> with_reducible rfl)
  simp only [sA,sB]
  refine hT 12 65 rfl rfl hHeld nPp (v:=?_) (fun x' hSx=>?_) ?_
  rotate_left 1
  ·(go_simp <;> with_reducible rfl)
  simp only [sA,sB]
  obtain ⟨Wy,hWy⟩:∃ Wy,Wy=W9.drew.drewN q:=⟨_,rfl⟩
  have HBy:Hid (WB H (.slice (some ⟨ba,off,none⟩) L cap) (.slice (some ⟨ba,off+p,none⟩) M M) p M left n d Wy):=qz (by rw [hWy];exact (uh HB9).same rfl)
  have HKy:Hid (Below H w Wy):=qz (by rw [hWy];exact ⟨(uh HBL9).os,(uh HBL9).tape,(uh HBL9).output,(uh HBL9).size,(uh HBL9).block⟩)
  replace hHeld:Wy.cell? ⟨gx,1,none⟩=some (.int .i64 (W:Int)):=by rw [hWy];exact hHeld.2.2.1
  rw [← hWy]
  clear hWy
  have hx3:=(uh HBy).len' n2
  have hx4:=hx3.dist' d2
  refine held_skip 13 (by kernel_rfl) rfl rfl (by rfl) (w':=Wy.setCell ⟨H+3,0,none⟩ (.int .i64 (n2:Int))) ?_ ⟨hx3.c5,hx3.c1,(by rw [World.cell?_of_block (heap_setCell_other _ _ _ _ (by show gx≠H+3;omega))];exact hHeld),hx3.c2⟩ ?_
  ·(have q1:=(uh HBy).c3;have q2:=(uh HBy).f3;go_simp)
  refine held_skip 14 (by kernel_rfl) rfl rfl (by rfl) (w':=(Wy.setCell ⟨H+3,0,none⟩ (.int .i64 (n2:Int))).setCell ⟨H+4,0,none⟩ (.int .i64 (d2:Int))) ?_ ⟨hx4.c5,hx4.c1,(by rw [World.cell?_of_block (heap_setCell_other _ _ _ _ (by show gx≠H+4;omega)),World.cell?_of_block (heap_setCell_other _ _ _ _ (by show gx≠H+3;omega))];exact hHeld),hx4.c2⟩ ?_
  ·(have q1:=hx3.c4;have q2:=hx3.f4;go_simp)
  refine wpAnyH_done (by kernel_rfl) ?_ _
  refine NoPanic.normal ?_
  have HBX:=qz hbest
  have HX4:=qz hx4
  have HBE:Hid (Below H w ((Wy.setCell ⟨H+3,0,none⟩ (.int .i64 (n2:Int))).setCell ⟨H+4,0,none⟩ (.int .i64 (d2:Int)))):=qz (((uh HKy).setCell (by show H≤H+3;omega) _).setCell (by show H≤H+4;omega) _)
  clear hbest hx3 hx4 hHeld
  go_wp2_with fail
  refine bodyPost_ret (results_two rfl _ _ ⟨H+3,0,none⟩ ⟨H+4,0,none⟩ rfl rfl _ _ (uh HX4).c3 (uh HX4).c4) rfl ⟨n2,d2,rfl,uh HBX,by rw [← uh HHW];exact uh HBE⟩
 ·have HBX:Hid (IsBest (zf zs) p u M n d):=qz (by
   rcases hcase with h | h
   ·exact absurd h ht
   ·rw [hpf] at h;exact h)
  have HS8:Hid (W9.drew.cell? ⟨H+3,0,none⟩=some (.int .i64 (n:Int))∧W9.drew.cell? ⟨H+4,0,none⟩=some (.int .i64 (d:Int))):=qz ⟨(uh HB9).c3,(uh HB9).c4⟩
  have ht':(¬ (n:Int)<(M:Int))∨((n:Int)<(M:Int)∧¬ left≤0):=by omega
  clear hcase ht
  rcases ht' with h1 | ⟨h1,h2⟩
  all_goals go_upto_region 8 with fail
  ·refine wp_region_noPanic ?_
   refine wp_region_held_drew (S:=fun y=>y.cell? ⟨H+3,0,none⟩=some (.int .i64 (n:Int))∧y.cell? ⟨H+4,0,none⟩=some (.int .i64 (d:Int))) (by kernel_rfl) (uh HS8) (fun hHeld=>?_)
   refine hT 0 66 rfl rfl hHeld nPp (v:=?_) (fun x' hSx=>?_) ?_
   rotate_left 1
   ·(obtain ⟨q1,q2⟩:=hSx;go_simp <;> with_reducible rfl)
   simp only [sA,sB]
   refine hT 1 67 rfl rfl hHeld nPp (v:=?_) (fun x' hSx=>?_) ?_
   rotate_left 1
   ·(obtain ⟨q1,q2⟩:=hSx;go_simp <;> with_reducible rfl)
   simp only [sA,sB]
   obtain ⟨Wy,hWy⟩:∃ Wy,Wy=W9.drew:=⟨_,rfl⟩
   have HBy:Hid (WB H (.slice (some ⟨ba,off,none⟩) L cap) (.slice (some ⟨ba,off+p,none⟩) M M) p M left n d Wy):=qz (by rw [hWy];exact (uh HB9).same rfl)
   have HKy:Hid (Below H w Wy):=qz (by rw [hWy];exact ⟨(uh HBL9).os,(uh HBL9).tape,(uh HBL9).output,(uh HBL9).size,(uh HBL9).block⟩)
   rw [← hWy] at hHeld ⊢
   clear hWy
   have hx3:=(uh HBy).len' n
   have hx4:=hx3.dist' d
   refine held_skip 2 (by kernel_rfl) rfl rfl (by rfl) (w':=Wy.setCell ⟨H+3,0,none⟩ (.int .i64 (n:Int))) ?_ ⟨hx3.c3,hx3.c4⟩ ?_
   ·(have q1:=(uh HBy).c3;have q2:=(uh HBy).f3;go_simp)
   refine held_skip 3 (by kernel_rfl) rfl rfl (by rfl) (w':=(Wy.setCell ⟨H+3,0,none⟩ (.int .i64 (n:Int))).setCell ⟨H+4,0,none⟩ (.int .i64 (d:Int))) ?_ ⟨hx4.c3,hx4.c4⟩ ?_
   ·(have q1:=hx3.c4;have q2:=hx3.f4;go_simp)
   refine wpAnyH_done (by kernel_rfl) ?_ _
   refine NoPanic.normal ?_
   have HX4:=qz hx4
   have HBE:Hid (Below H w ((Wy.setCell ⟨H+3,0,none⟩ (.int .i64 (n:Int))).setCell ⟨H+4,0,none⟩ (.int .i64 (d:Int)))):=qz (((uh HKy).setCell (by show H≤H+3;omega) _).setCell (by show H≤H+4;omega) _)
   clear hx3 hx4 hHeld
   go_wp2_with fail
   refine bodyPost_ret (results_two rfl _ _ ⟨H+3,0,none⟩ ⟨H+4,0,none⟩ rfl rfl _ _ (uh HX4).c3 (uh HX4).c4) rfl ⟨n,d,rfl,uh HBX,by rw [← uh HHW];exact uh HBE⟩
  ·refine wp_region_noPanic ?_
   refine wp_region_held_drew (S:=fun y=>y.cell? ⟨H+3,0,none⟩=some (.int .i64 (n:Int))∧y.cell? ⟨H+4,0,none⟩=some (.int .i64 (d:Int))) (by kernel_rfl) (uh HS8) (fun hHeld=>?_)
   refine hT 0 66 rfl rfl hHeld nPp (v:=?_) (fun x' hSx=>?_) ?_
   rotate_left 1
   ·(obtain ⟨q1,q2⟩:=hSx;go_simp <;> with_reducible rfl)
   simp only [sA,sB]
   refine hT 1 67 rfl rfl hHeld nPp (v:=?_) (fun x' hSx=>?_) ?_
   rotate_left 1
   ·(obtain ⟨q1,q2⟩:=hSx;go_simp <;> with_reducible rfl)
   simp only [sA,sB]
   obtain ⟨Wy,hWy⟩:∃ Wy,Wy=W9.drew:=⟨_,rfl⟩
   have HBy:Hid (WB H (.slice (some ⟨ba,off,none⟩) L cap) (.slice (some ⟨ba,off+p,none⟩) M M) p M left n d Wy):=qz (by rw [hWy];exact (uh HB9).same rfl)
   have HKy:Hid (Below H w Wy):=qz (by rw [hWy];exact ⟨(uh HBL9).os,(uh HBL9).tape,(uh HBL9).output,(uh HBL9).size,(uh HBL9).block⟩)
   rw [← hWy] at hHeld ⊢
   clear hWy
   have hx3:=(uh HBy).len' n
   have hx4:=hx3.dist' d
   refine held_skip 2 (by kernel_rfl) rfl rfl (by rfl) (w':=Wy.setCell ⟨H+3,0,none⟩ (.int .i64 (n:Int))) ?_ ⟨hx3.c3,hx3.c4⟩ ?_
   ·(have q1:=(uh HBy).c3;have q2:=(uh HBy).f3;go_simp)
   refine held_skip 3 (by kernel_rfl) rfl rfl (by rfl) (w':=(Wy.setCell ⟨H+3,0,none⟩ (.int .i64 (n:Int))).setCell ⟨H+4,0,none⟩ (.int .i64 (d:Int))) ?_ ⟨hx4.c3,hx4.c4⟩ ?_
   ·(have q1:=hx3.c4;have q2:=hx3.f4;go_simp)
   refine wpAnyH_done (by kernel_rfl) ?_ _
   refine NoPanic.normal ?_
   have HX4:=qz hx4
   have HBE:Hid (Below H w ((Wy.setCell ⟨H+3,0,none⟩ (.int .i64 (n:Int))).setCell ⟨H+4,0,none⟩ (.int .i64 (d:Int)))):=qz (((uh HKy).setCell (by show H≤H+3;omega) _).setCell (by show H≤H+4;omega) _)
   clear hx3 hx4 hHeld
   go_wp2_with fail
   refine bodyPost_ret (results_two rfl _ _ ⟨H+3,0,none⟩ ⟨H+4,0,none⟩ rfl rfl _ _ (uh HX4).c3 (uh HX4).c4) rfl ⟨n,d,rfl,uh HBX,by rw [← uh HHW];exact uh HBE⟩
end T6
namespace T6
open Go.RowKit
variable {F:Fence} {P:Program}
theorem putObj_same {W:World} {l:Nat} {o o':Obj} (h:W.heap[l]?=some o):(W.putObj l o').heap[l]?=some o':=World.putObj_heap_same (Array.getElem?_eq_some_iff.1 h).1
theorem round_or {m l:Nat} {r:Loop} {args:Array Value} {W:World} {I' X:World→Prop} (hfn:F.fn r.fn) (hl:W.heap[l]?=some (.loop r)) (hr:r.state=.ready) (hp:r.pending=none) (hs:args.size=r.params.size)
  (h:r.assign.wpIn (F.inRound l) m P (Exit.then (fun a' W'=>W'.heap[l]?=some (.loop r)∧r.body.wpIn (F.inRound l) m P (fun e _ W''=>W''.heap[l]?=some (.loop { r with state:=.busy })∧((e=.normal∧I' (W''.putObj l (.loop r)))∨(e=.ret∧X (W''.putObj l (.loop { r with state:=.done,pending:=some .ret }))))) a' (W'.putObj l (.loop { r with state:=.busy }))) (fun _ _ _=>False))
   { tmps:=(r.params.zip args).foldl (fun t (p,v)=>t.setIfInBounds p v) r.tmps,defers:=[] } W) :
  YieldAt F m P l args W fun e W'=>(e=.returned (.bool true)∧I' W'∧W'.heap[l]?=some (.loop r))∨(e=.returned (.bool false)∧X W'∧W'.heap[l]?=some (.loop { r with state:=.done,pending:=some .ret })):=by
 refine ⟨r.fn,_,r.assign,r.body,run_yield hl hs,roundIn_of_wpIn hfn (wpIn_mono h ?_)⟩
 rintro e a' W' hq
 cases e with
 | normal =>
  obtain ⟨h1,h2⟩:=hq
  refine ⟨_,run_beginRound h1 hr,wpIn_mono h2 ?_⟩
  rintro e a'' W'' ⟨h3,⟨rfl,h4⟩ | ⟨rfl,h4⟩⟩
  ·have h5:=run_endRound (P:=P) none h3
   have e2:({ { r with state:=.busy } with state:=if (none:Option Go.Code).isNone then .ready else .done,pending:=none }:Loop)=r:=by
    cases r
    simp at hr hp
    subst hr hp
    rfl
   rw [e2] at h5
   exact ⟨_,_,h5,.inl ⟨rfl,h4,putObj_same h3⟩⟩
  ·have h5:=run_endRound (P:=P) (some .ret) h3
   exact ⟨_,_,h5,.inr ⟨rfl,h4,putObj_same h3⟩⟩
 | _=>exact hq.elim
theorem range_stop {n:Nat} {g:Operand} {ps:Array Tmp} {assign body:Go.Code} {Q:Exit→Act→World→Prop} {a:Act} {w:World} (hro:F.round=none) (h1:1≤n) {gf:Nat} {lb:Array Value} (hg:a.eval g=.func (.func gf) #[] lb) (hFg:F.fn gf)
  (eg:∀ args w,(callFunc gf args).run P w=.ok (.enter gf args) w) (encs:Nat→Array Value) (N:Nat) (hps:∀ k,(encs k).size=ps.size) (I:Nat→World→Prop) (X:World→Prop) (hI:OwnFrom w.heap.size I) (hX:OwnFrom w.heap.size (fun (_:Unit) W=>X W)) (h0:I 0 w)
  (hseq:∀ (l:Nat) (J:Nat→World→Prop) (Y:World→Prop) (W:World),(∀ k W,J k W→I k W)→J 0 W→(∀ k W1,k<N→J k W1→YieldAt F (n - 1 - 1) P l (encs k) W1 fun e W'=>(e=.returned (.bool true)∧J (k+1) W')∨(e=.returned (.bool false)∧Y W')) →
   CallsIn F (n - 1) P gf (#[.func (.yield l) #[] #[]]++lb) W fun e W'=>(∃ v,e=.returned v)∧(J N W'∨Y W'))
  (Ax:Nat→Act→World→Prop) (hAx:∀ k a',OwnFrom w.heap.size (fun (_:Unit) W=>Ax k a' W))
  (hassign:∀ (l k:Nat) (W:World) (K:Act→World→Prop),k<N→I k W→(∀ a' W',KeepsOthers W W'→I k W'→Ax k a' W'→K a' W') →
   assign.wpIn (F.inRound l) (n - 1 - 1) P (Exit.then K (fun _ _ _=>False)) { tmps:=(ps.zip (encs k)).foldl (fun t (p,v)=>t.setIfInBounds p v) a.tmps,defers:=[] } W)
  (hbody:∀ (l k:Nat) (a':Act) (W:World),k<N→I k W→Ax k a' W→body.wpIn (F.inRound l) (n - 1 - 1) P (fun e _ W''=>KeepsOthers W W''∧((e=.normal∧I (k+1) W'')∨(e=.ret∧X W''))) a' W)
  (hdone:∀ (D:Nat) (W:World),w.heap.size≤D→I N W→W.heap[D]?=some (.deferred (some []))→Q .normal { a with defers:={ target:=.collected D,args:=#[] } :: a.defers } W)
  (hstop:∀ (D:Nat) (W:World),w.heap.size≤D→X W→W.heap[D]?=some (.deferred (some []))→Q .ret { a with defers:={ target:=.collected D,args:=#[] } :: a.defers } W) :
  (Go.Code.rangeFunc g ps assign body).wpIn F n P Q a w:=by
 refine wpIn_rangeFunc fun fn hfn=>?_
 rw [hro]
 obtain ⟨r,hr⟩:∃ r:Loop,r={ state:=.ready,pending:=none,fn:=fn,tmps:=a.tmps,params:=ps,assign:=assign,body:=body,defers:=w.heap.size }:=⟨_,rfl⟩
 have hL:((w.alloc (.deferred (some []))).alloc (.loop r)).heap[w.heap.size+1]?=some (.loop r):=by
  have:=World.alloc_heap_new (w.alloc (.deferred (some []))) (.loop r)
  rwa [World.size_alloc] at this
 have hD:((w.alloc (.deferred (some []))).alloc (.loop r)).heap[w.heap.size]?=some (.deferred (some [])):=(Below.heap_alloc _ _ _ (by simp)).trans (World.alloc_heap_new w _)
 have hI1:I 0 ((w.alloc (.deferred (some []))).alloc (.loop r)):=hI.alloc _ (hI.alloc _ h0)
 obtain ⟨W1,hW1⟩:∃ W1,W1=(w.alloc (.deferred (some []))).alloc (.loop r):=⟨_,rfl⟩
 rw [← hW1] at hL hD hI1
 refine ⟨w.heap.size+1,[{ target:=.collected w.heap.size,args:=#[] }],W1,{ target:=.fn (.func gf) lb,args:=#[.func (.yield (w.heap.size+1)) #[] #[]] },W1,gf,#[.func (.yield (w.heap.size+1)) #[] #[]]++lb,W1,
  (by rw [hW1,hr];exact run_enterLoop_outer _ _ _ _ _),(by simp only [resolve,hg];simp [go_sem]),(fun f' hf'=>by simp [Target.leads] at hf';subst hf';exact hFg),(by simp [invoke,go_sem,eg]),fun _=>h1,?_⟩
 refine (hseq (w.heap.size+1) (fun k W=>I k W∧W.heap[w.heap.size]?=some (.deferred (some []))∧W.heap[w.heap.size+1]?=some (.loop r)) (fun W=>X W∧W.heap[w.heap.size]?=some (.deferred (some []))∧W.heap[w.heap.size+1]?=some (.loop { r with state:=.done,pending:=some .ret })) _ (fun k W h=>h.1) ⟨hI1,hD,hL⟩ ?_).mono ?_
 ·rintro k W hk ⟨hi,hd,hl⟩
  have hrd:=round_or (F:=F) (P:=P) (m:=n - 1 - 1) (l:=w.heap.size+1) (r:=r) (args:=encs k) (W:=W) (I':=fun W'=>I (k+1) W'∧W'.heap[w.heap.size]?=some (.deferred (some []))) (X:=fun W'=>X W'∧W'.heap[w.heap.size]?=some (.deferred (some []))) (by rw [hr];exact hfn) hl (by rw [hr]) (by rw [hr]) (by rw [hr];exact hps k) (by
   have e1:r.assign=assign:=by rw [hr]
   have e2:r.body=body:=by rw [hr]
   have e3:r.params=ps:=by rw [hr]
   have e4:r.tmps=a.tmps:=by rw [hr]
   have hassign':=hassign
   have hbody':=hbody
   rw [← e1,← e3,← e4] at hassign'
   rw [← e2] at hbody'
   refine hassign' _ k W _ hk hi fun a' W' kp hi' hax=>?_
   have hl':=kp.same (w.heap.size+1) (.loop r) hl rfl
   have hd':=kp.same w.heap.size (.deferred (some [])) hd rfl
   refine ⟨hl',wpIn_mono (hbody' _ k a' _ hk (hI.putObj _ hi' (by omega) hl' rfl) ((hAx k a').putObj (s:=()) _ hax (by omega) hl' rfl)) ?_⟩
   rintro e a'' W'' ⟨kp2,hor⟩
   have hl2:=kp2.same (w.heap.size+1) (.loop { r with state:=.busy }) (putObj_same hl') rfl
   have hd2:=kp2.same w.heap.size (.deferred (some [])) ((World.putObj_heap_other (by omega)).trans hd') rfl
   refine ⟨hl2,?_⟩
   rcases hor with ⟨rfl,hi2⟩ | ⟨rfl,hx2⟩
   ·exact .inl ⟨rfl,hI.putObj _ hi2 (by omega) hl2 rfl,(World.putObj_heap_other (by omega)).trans hd2⟩
   ·exact .inr ⟨rfl,hX.putObj (s:=()) _ hx2 (by omega) hl2 rfl,(World.putObj_heap_other (by omega)).trans hd2⟩)
  obtain ⟨f',t',as',b',hy,hR⟩:=hrd
  refine ⟨f',t',as',b',hy,hR.mono ?_⟩
  rintro e W' (⟨x1,⟨x2,x3⟩,x4⟩ | ⟨x1,⟨x2,x3⟩,x4⟩)
  ·exact .inl ⟨x1,x2,x3,x4⟩
  ·exact .inr ⟨x1,x2,x3,x4⟩
 ·rintro e W2 ⟨⟨v,rfl⟩,⟨hi,hd,hl⟩ | ⟨hx,hd,hl⟩⟩
  ·have h2:=run_endLoop (P:=P) hl (by rw [hr];simp)
   have e2:r.pending=none:=by rw [hr]
   rw [e2] at h2
   exact ⟨none,_,h2,hdone _ _ (Nat.le_refl _) (hI.putObj _ hi (by omega) hl rfl) ((World.putObj_heap_other (by omega)).trans hd)⟩
  ·have h2:=run_endLoop (P:=P) hl (by simp)
   exact ⟨some .ret,_,h2,wpIn_ret (hstop _ _ (Nat.le_refl _) (hX.putObj (s:=()) _ hx (by omega) hl rfl) ((World.putObj_heap_other (by omega)).trans hd))⟩
end T6
namespace T6
open Go.RowKit Go.Shelf
attribute [local go_sem] Oper.semAt_some
structure BackR (Bs gr M cap:Nat) (v0 v1 v2:Nat→Value) (W:World):Prop where
 box:W.cell? ⟨Bs,0,none⟩=some (.slice (some ⟨gr,0,none⟩) M cap)
 one:∀ j,j<M→W.cell? ⟨gr,j*3,none⟩=some (v0 j)
 two:∀ j,j<M→W.cell? ⟨gr,j*3+1,none⟩=some (v1 j)
 thr:∀ j,j<M→W.cell? ⟨gr,j*3+2,none⟩=some (v2 j)
def encB (M:Nat) (v0 v1 v2:Nat→Value) (k:Nat):Array Value:=#[.int .i64 ((M - 1 - k:Nat):Int),.agg #[v0 (M - 1 - k),v1 (M - 1 - k),v2 (M - 1 - k)]]
theorem back1_in (F:Fence) (m:Nat) (h43:F.fn 126) (hro:F.round=none) (hm:1≤m) (l Bs gr M cap:Nat) (hM:M≤20) (v0 v1 v2:Nat→Value) (J:Nat→World→Prop) (Y:World→Prop) (hJ:∀ k W,J k W→BackR Bs gr M cap v0 v1 v2 W)
  (hY:∀ k W,k<M→J k W→YieldAt F (m - 1) Tryz.prog l (encB M v0 v1 v2 k) W fun e W'=>(e=.returned (.bool true)∧J (k+1) W')∨(e=.returned (.bool false)∧Y W')) (W:World) (h0:J 0 W) :
  CallsIn F m Tryz.prog 126 #[.func (.yield l) #[] #[],.pointer (some ⟨Bs,0,none⟩)] W fun e W'=>(∃ v,e=.returned v)∧(J M W'∨Y W'):=by
 have hb0:=(hJ 0 W h0).box
 refine callsIn_of_wp Tryz.func126 rfl h43 ?_ hro
 simp only [Tryz.ntmps126,List.size_toArray,List.length_cons,List.length_nil,Nat.reduceAdd,Nat.reduceSub,Array.replicate_succ,Array.replicate_zero,List.push_toArray,List.append_toArray,List.nil_append,List.cons_append]
 gi_wp2
 gi_loopw [3] (fun i wr=>∃ k:Nat,k≤M∧i=.int .i64 ((M:Int) - 1 - (k:Int))∧J k wr) (fun i _=>(intOf i+1).toNat)
 case atStart=>exact ⟨0,Nat.zero_le _,by simp,h0⟩
 case round =>
  obtain ⟨k,hk,rfl,hJs⟩:=hrel
  by_cases hlt:k<M
  ·obtain ⟨j,hj⟩:∃ j:Nat,j=M - 1 - k:=⟨_,rfl⟩
   have e:(M:Int) - 1 - (k:Int)=(j:Int):=by omega
   have hR:=hJ k wr hJs
   have c0:=hR.box
   have c1:=hR.one j (by omega)
   have c2:=hR.two j (by omega)
   have c3:=hR.thr j (by omega)
   obtain ⟨fn,tmps,assign,body,hy,hRd⟩:=hY k wr hlt hJs
   unfold encB at hy
   rw [← hj] at hy
   have hjM:(j:Int)<(M:Int):=by omega
   have hj0:(0:Int)≤(j:Int):=by omega
   rw [e]
   have HE:=qz e
   clear hR hj e
   gi_wp2
   refine hRd.mono ?_
   rintro e W3 (⟨rfl,hJ3⟩ | ⟨rfl,hY3⟩)
   ·gi_wp2
    go_roundw
    case rel=>exact ⟨k+1,by omega,by have:=uh HE;congr 1;omega,hJ3⟩
    case measure=>have:=uh HE;simp [intOf];try omega
   ·gi_wp2
    refine bodyPost_ret (results_none rfl _ _ _) rfl ?_
    exact ⟨⟨_,rfl⟩,.inr hY3⟩
  ·obtain rfl:k=M:=by omega
   have e:(k:Int) - 1 - (k:Int) = -1:=by omega
   rw [e]
   gi_wp2
   go_end0
   exact ⟨⟨_,rfl⟩,.inl hJs⟩
attribute [local go_sem ↓] wp_at_zero wp_at_succ
theorem back_ok (a:Option Addr) (len cap:Nat) (w:World) :
  Calls Tryz.prog 97 #[.slice a len cap] w fun e w'=>e=.returned (.func (.func 126) #[] #[.pointer (some ⟨w.heap.size,0,none⟩)])∧w'=w.alloc (.cells #[.slice a len cap] 121):=by
 go_enter Tryz.func97,Tryz.ntmps97
 go_wp2_with fail
 go_ret
 exact ⟨rfl,rfl⟩
end T6
namespace T6
open Go.RowKit Go.Maps
attribute [local go_sem ↓] wp_at_zero wp_at_succ
theorem match_zero (zs:List Nat) (a:Option Addr) (B cap p W M gx:Nat) (w:World) (hr:ReadsU B w (.slice a zs.length cap) zs) (hcap:zs.length≤cap) (hz:∀ c∈zs,c<256) (hl:zs.length≤100000000) (hp:p≤zs.length) (hB:B≤w.heap.size) (hW:W≤9223372036854775807) (hM:M≤9223372036854775807)
  (hx0:w.cell? ⟨gx,0,none⟩=some (.slice a zs.length cap)) (hx1:w.cell? ⟨gx,1,none⟩=some (.int .i64 (W:Int))) (hx2:w.cell? ⟨gx,2,none⟩=some (.int .i64 (M:Int))) (hx3:w.cell? ⟨gx,3,none⟩=some (.slice none 0 0)) (hm:ML w) :
  Calls Tryz.prog 65 #[.pointer (some ⟨gx,0,none⟩),.int .i64 (p:Int)] w fun e w'=>WalkIs zs p (min p W) (min M (zs.length - p)) w e w':=by
 obtain ⟨H,hH⟩:∃ H,H=w.heap.size:=⟨_,rfl⟩
 have HHW:=qz hH
 have hgxH:gx<H:=by rw [hH];exact cell_lt hx0
 have HX0:=qz hx0
 have HX1:=qz hx1
 have HX2:=qz hx2
 have HX3:=qz hx3
 have HR:=qz hr
 have HZ:=qz hz
 have HML:=qz hm
 obtain ⟨L,htx⟩:∃ L,L=zs.length:=⟨_,rfl⟩
 rw [← htx] at HX0 HR hcap hl hp ⊢
 have HTX:=qz htx
 obtain ⟨m0,hm0⟩:∃ m0,m0=min M (L - p):=⟨_,rfl⟩
 obtain ⟨u,hu⟩:∃ u,u=min p W:=⟨_,rfl⟩
 rw [← hm0,← hu]
 have HU:=qz hu
 have HM0:=qz hm0
 have hx3':(((((w.alloc (.cells #[.pointer (some ⟨gx,0,none⟩)] 119)).alloc (.cells #[.int .i64 (p:Int)] 3)).alloc (.cells #[.int .i64 0] 3)).alloc (.cells #[.int .i64 0] 3))).cell? ⟨gx,3,none⟩=some (.slice none 0 0):=by
  have hbl:Below w.heap.size w ((((w.alloc (.cells #[.pointer (some ⟨gx,0,none⟩)] 119)).alloc (.cells #[.int .i64 (p:Int)] 3)).alloc (.cells #[.int .i64 0] 3)).alloc (.cells #[.int .i64 0] 3)):=((((Below.refl _ _).alloc (by omega) _).alloc (by simp) _).alloc (by simp;omega) _).alloc (by simp;omega) _
  exact cell_stays hbl hx3
 clear hr hz hm htx hx0 hx1 hx2 hx3 hH hu hm0
 go_enter Tryz.func65,Tryz.ntmps65
 go_upto_region 2 with fail
 have e3:w.heap.size+1+1+1=H+3:=by rw [uh HHW]
 have e2:w.heap.size+1+1=H+2:=by rw [uh HHW]
 have e1:w.heap.size+1=H+1:=by rw [uh HHW]
 have e0:w.heap.size=H:=(uh HHW).symm
 rw [e3,e2,e1,e0]
 generalize hW4:(((w.alloc (.cells #[.pointer (some ⟨gx,0,none⟩)] 119)).alloc (.cells #[.int .i64 (p:Int)] 3)).alloc (.cells #[.int .i64 0] 3)).alloc (.cells #[.int .i64 0] 3)=W4
 have HB0:Hid (W4.heap[H]?=some (.cells #[.pointer (some ⟨gx,0,none⟩)] 119 (0,0))∧W4.heap[H+1]?=some (.cells #[.int .i64 (p:Int)] 3 (0,0))):=qz (by
  rw [← hW4,uh HHW]
  refine ⟨?_,?_⟩ <;> simp only [heap_alloc_at,World.size_alloc] <;> (repeat (first | rw [if_pos (by omega)] | rw [if_neg (by omega)])) <;> rfl)
 have HA:Hid (W4.heap[H+2]?=some (.cells #[.int .i64 0] 3 (0,0))∧W4.heap[H+3]?=some (.cells #[.int .i64 0] 3 (0,0))):=qz (by
  rw [← hW4,uh HHW]
  refine ⟨?_,?_⟩ <;> simp only [heap_alloc_at,World.size_alloc] <;> (repeat (first | rw [if_pos (by omega)] | rw [if_neg (by omega)])) <;> rfl)
 have HBL:Hid (Below H w W4):=qz (by
  rw [← hW4]
  exact ((((Below.refl _ _).alloc (by omega) _).alloc (by simp;omega) _).alloc (by simp;omega) _).alloc (by simp;omega) _)
 clear hW4 e0 e1 e2 e3 hx3'
 have HS:Hid (W4.drew.cell? ⟨H,0,none⟩=some (.pointer (some ⟨gx,0,none⟩))∧W4.drew.cell? ⟨H+1,0,none⟩=some (.int .i64 (p:Int))∧W4.drew.cell? ⟨gx,0,none⟩=some (.slice a L cap)∧W4.drew.cell? ⟨gx,1,none⟩=some (.int .i64 (W:Int))∧W4.drew.cell? ⟨gx,2,none⟩=some (.int .i64 (M:Int))):=qz (by
  refine ⟨?_,?_,?_,?_,?_⟩
  ·show W4.cell? _=_
   simp [World.cell?,(uh HB0).1]
  ·show W4.cell? _=_
   simp [World.cell?,(uh HB0).2]
  ·exact cell_below (uh HBL) (uh HX0) hgxH
  ·exact cell_below (uh HBL) (uh HX1) hgxH
  ·exact cell_below (uh HBL) (uh HX2) hgxH)
 have HKS:Hid (∀ (y:World) (k:Nat) (x:Value),(k=H+2∨k=H+3)→(y.cell? ⟨H,0,none⟩=some (.pointer (some ⟨gx,0,none⟩))∧y.cell? ⟨H+1,0,none⟩=some (.int .i64 (p:Int))∧y.cell? ⟨gx,0,none⟩=some (.slice a L cap)∧y.cell? ⟨gx,1,none⟩=some (.int .i64 (W:Int))∧y.cell? ⟨gx,2,none⟩=some (.int .i64 (M:Int))) →
   (y.setCell ⟨k,0,none⟩ x).cell? ⟨H,0,none⟩=some (.pointer (some ⟨gx,0,none⟩))∧(y.setCell ⟨k,0,none⟩ x).cell? ⟨H+1,0,none⟩=some (.int .i64 (p:Int))∧(y.setCell ⟨k,0,none⟩ x).cell? ⟨gx,0,none⟩=some (.slice a L cap)∧(y.setCell ⟨k,0,none⟩ x).cell? ⟨gx,1,none⟩=some (.int .i64 (W:Int))∧(y.setCell ⟨k,0,none⟩ x).cell? ⟨gx,2,none⟩=some (.int .i64 (M:Int))):=qz fun y k x hk h=>by
  have kp:∀ (g i:Nat),g≠k→(y.setCell ⟨k,0,none⟩ x).cell? ⟨g,i,none⟩=y.cell? ⟨g,i,none⟩:=fun g i hg=>World.cell?_of_block (heap_setCell_other _ _ _ _ (by exact hg))
  rw [kp _ _ (by omega),kp _ _ (by omega),kp _ _ (by omega),kp _ _ (by omega),kp _ _ (by omega)]
  exact h
 have HLK:Hid (∃ T t:Nat,Calls Tryz.prog 62 #[.slice a L cap,.int .i64 (p:Int),.int .i64 (W:Int),.int .i64 (M:Int)] W4.drew fun e w'=>∃ a',e=.returned (.tuple #[.slice a' T T,.int .i64 (t:Int)])∧w'=W4.drew ∧
   ∀ q,Calls Tryz.prog 95 #[.slice a' T T,.int .i64 (t:Int)] (W4.drew.drewN q) fun e w'=>∃ n d:Nat,e=.returned (.tuple #[.int .i64 (n:Int),.int .i64 (d:Int)])∧IsBest (zf zs) p u m0 n d∧∃ q,w'=W4.drew.drewN q):=qz (by
  have hml:ML W4.drew:=by
   obtain ⟨m,hm⟩:=uh HML
   exact ⟨m,cell_below (uh HBL) hm (by have:=cell_lt hm;rw [uh HHW];exact this)⟩
  have hr1:ReadsU B W4.drew (.slice a zs.length cap) zs:=by
   have h:=uh HR
   rw [uh HTX] at h
   exact h.stays ⟨(uh HBL).os,(uh HBL).tape,(uh HBL).output,(uh HBL).size,fun k hk=>(uh HBL).block k (by rw [uh HHW];omega)⟩
  have:=look_seek zs a cap B p W M W4.drew hr1 (by rw [← uh HTX];exact hcap) (uh HZ) (by rw [← uh HTX];omega) (by rw [← uh HTX];omega) hW hM hml
  rw [← uh HU,← uh HTX,← uh HM0] at this
  exact this)
 refine wp_region_noPanic ?_
 refine wp_region_held_drew (S:=fun y=>y.cell? ⟨H,0,none⟩=some (.pointer (some ⟨gx,0,none⟩))∧y.cell? ⟨H+1,0,none⟩=some (.int .i64 (p:Int))∧y.cell? ⟨gx,0,none⟩=some (.slice a L cap)∧y.cell? ⟨gx,1,none⟩=some (.int .i64 (W:Int))∧y.cell? ⟨gx,2,none⟩=some (.int .i64 (M:Int))) (by kernel_rfl) (uh HS) (fun hHeld=>?_)
 refine hT 0 17 rfl rfl hHeld nPp (v:=?_) (fun x' hSx=>?_) ?_
 rotate_left 1
 ·(obtain ⟨q1,q2,q3,q4,q5⟩:=hSx;go_simp <;> with_reducible rfl)
 simp only [sA,sB]
 refine hT 1 18 rfl rfl hHeld nPp (v:=?_) (fun x' hSx=>?_) ?_
 rotate_left 1
 ·(obtain ⟨q1,q2,q3,q4,q5⟩:=hSx;go_simp <;> with_reducible rfl)
 simp only [sA,sB]
 refine hT 2 19 rfl rfl hHeld nPp (v:=?_) (fun x' hSx=>?_) ?_
 rotate_left 1
 ·(obtain ⟨q1,q2,q3,q4,q5⟩:=hSx;go_simp <;> with_reducible rfl)
 simp only [sA,sB]
 refine hT 3 20 rfl rfl hHeld nPp (v:=?_) (fun x' hSx=>?_) ?_
 rotate_left 1
 ·(obtain ⟨q1,q2,q3,q4,q5⟩:=hSx;go_simp <;> with_reducible rfl)
 simp only [sA,sB]
 refine hT 4 21 rfl rfl hHeld nPp (v:=?_) (fun x' hSx=>?_) ?_
 rotate_left 1
 ·(obtain ⟨q1,q2,q3,q4,q5⟩:=hSx;go_simp <;> with_reducible rfl)
 simp only [sA,sB]
 refine hT 5 22 rfl rfl hHeld nPp (v:=?_) (fun x' hSx=>?_) ?_
 rotate_left 1
 ·(obtain ⟨q1,q2,q3,q4,q5⟩:=hSx;go_simp <;> with_reducible rfl)
 simp only [sA,sB]
 refine hT 6 23 rfl rfl hHeld nPp (v:=?_) (fun x' hSx=>?_) ?_
 rotate_left 1
 ·(obtain ⟨q1,q2,q3,q4,q5⟩:=hSx;go_simp <;> with_reducible rfl)
 simp only [sA,sB]
 refine hT 7 24 rfl rfl hHeld nPp (v:=?_) (fun x' hSx=>?_) ?_
 rotate_left 1
 ·(obtain ⟨q1,q2,q3,q4,q5⟩:=hSx;go_simp <;> with_reducible rfl)
 simp only [sA,sB]
 refine hT 8 25 rfl rfl hHeld nPp (v:=?_) (fun x' hSx=>?_) ?_
 rotate_left 1
 ·(obtain ⟨q1,q2,q3,q4,q5⟩:=hSx;go_simp <;> with_reducible rfl)
 simp only [sA,sB]
 refine hT 9 26 rfl rfl hHeld nPp (v:=?_) (fun x' hSx=>?_) ?_
 rotate_left 1
 ·(obtain ⟨q1,q2,q3,q4,q5⟩:=hSx;go_simp <;> with_reducible rfl)
 simp only [sA,sB]
 refine hT 10 27 rfl rfl hHeld nPp (v:=?_) (fun x' hSx=>?_) ?_
 rotate_left 1
 ·(obtain ⟨q1,q2,q3,q4,q5⟩:=hSx;go_simp <;> with_reducible rfl)
 simp only [sA,sB]
 refine hT 11 28 rfl rfl hHeld nPp (v:=?_) (fun x' hSx=>?_) ?_
 rotate_left 1
 ·(obtain ⟨q1,q2,q3,q4,q5⟩:=hSx;go_simp <;> with_reducible rfl)
 simp only [sA,sB]
 refine hT 12 29 rfl rfl hHeld nPp (v:=?_) (fun x' hSx=>?_) ?_
 rotate_left 1
 ·(obtain ⟨q1,q2,q3,q4,q5⟩:=hSx;go_simp <;> with_reducible rfl)
 simp only [sA,sB]
 obtain ⟨T,t,hlk⟩:=uh HLK
 refine held_enter 13 30 (by kernel_rfl) rfl rfl (by rfl) (by go_simp <;> exact ⟨rfl,rfl⟩) ?_
 refine hlk.mono ?_
 rintro e w' ⟨a',rfl,hww,hsk⟩
 replace hww:=hww.symm
 subst hww
 refine ⟨_,rfl,hHeld,?_⟩
 simp only [sA,sB]
 refine hT 14 31 rfl rfl hHeld nPp (v:=?_) (fun x' hSx=>?_) ?_
 rotate_left 1
 ·go_simp <;> with_reducible rfl
 simp only [sA,sB]
 refine hT 15 32 rfl rfl hHeld nPp (v:=?_) (fun x' hSx=>?_) ?_
 rotate_left 1
 ·go_simp <;> with_reducible rfl
 simp only [sA,sB]
 have HSK:=qz (hsk 0)
 clear hsk hlk
 refine held_enter 16 33 (by kernel_rfl) rfl rfl (by rfl) (by go_simp <;> exact ⟨rfl,rfl⟩) ?_
 refine (uh HSK).mono ?_
 rintro e w' ⟨n2,d2,rfl,hbest,q,rfl⟩
 refine ⟨_,rfl,hHeld,?_⟩
 simp only [sA,sB]
 refine hT 17 34 rfl rfl hHeld nPp (v:=?_) (fun x' hSx=>?_) ?_
 rotate_left 1
 ·go_simp <;> with_reducible rfl
 simp only [sA,sB]
 refine hT 18 35 rfl rfl hHeld nPp (v:=?_) (fun x' hSx=>?_) ?_
 rotate_left 1
 ·go_simp <;> with_reducible rfl
 simp only [sA,sB]
 obtain ⟨Wy,hWy⟩:∃ Wy,Wy=W4.drew.drewN q:=⟨_,rfl⟩
 have hA2:Wy.heap[H+2]?=some (.cells #[.int .i64 0] 3 (0,0)):=by rw [hWy];exact (uh HA).1
 have hA3:Wy.heap[H+3]?=some (.cells #[.int .i64 0] 3 (0,0)):=by rw [hWy];exact (uh HA).2
 have HKy:Hid (Below H w Wy):=qz (by rw [hWy];exact ⟨(uh HBL).os,(uh HBL).tape,(uh HBL).output,(uh HBL).size,(uh HBL).block⟩)
 have hHy:(fun y=>y.cell? ⟨H,0,none⟩=some (.pointer (some ⟨gx,0,none⟩))∧y.cell? ⟨H+1,0,none⟩=some (.int .i64 (p:Int))∧y.cell? ⟨gx,0,none⟩=some (.slice a L cap)∧y.cell? ⟨gx,1,none⟩=some (.int .i64 (W:Int))∧y.cell? ⟨gx,2,none⟩=some (.int .i64 (M:Int))) Wy:=by rw [hWy];exact hHeld
 rw [← hWy]
 clear hWy hHeld
 have hHy3:(fun y=>y.cell? ⟨H,0,none⟩=some (.pointer (some ⟨gx,0,none⟩))∧y.cell? ⟨H+1,0,none⟩=some (.int .i64 (p:Int))∧y.cell? ⟨gx,0,none⟩=some (.slice a L cap)∧y.cell? ⟨gx,1,none⟩=some (.int .i64 (W:Int))∧y.cell? ⟨gx,2,none⟩=some (.int .i64 (M:Int))) (Wy.setCell ⟨H+2,0,none⟩ (.int .i64 (n2:Int))):=uh HKS _ _ _ (.inl rfl) hHy
 have hHy4:(fun y=>y.cell? ⟨H,0,none⟩=some (.pointer (some ⟨gx,0,none⟩))∧y.cell? ⟨H+1,0,none⟩=some (.int .i64 (p:Int))∧y.cell? ⟨gx,0,none⟩=some (.slice a L cap)∧y.cell? ⟨gx,1,none⟩=some (.int .i64 (W:Int))∧y.cell? ⟨gx,2,none⟩=some (.int .i64 (M:Int))) ((Wy.setCell ⟨H+2,0,none⟩ (.int .i64 (n2:Int))).setCell ⟨H+3,0,none⟩ (.int .i64 (d2:Int))):=uh HKS _ _ _ (.inr rfl) hHy3
 have q1:Wy.cell? ⟨H+2,0,none⟩=some (.int .i64 0):=by simp [World.cell?,hA2]
 have q2:Wy.frozen? ⟨H+2,0,none⟩=false:=by simp [World.frozen?,hA2]
 have hB3:(Wy.setCell ⟨H+2,0,none⟩ (.int .i64 (n2:Int))).heap[H+3]?=some (.cells #[.int .i64 0] 3 (0,0)):=by rw [heap_setCell_other _ _ _ _ (by show H+3≠H+2;omega)];exact hA3
 have q3:(Wy.setCell ⟨H+2,0,none⟩ (.int .i64 (n2:Int))).cell? ⟨H+3,0,none⟩=some (.int .i64 0):=by simp [World.cell?,hB3]
 have q4:(Wy.setCell ⟨H+2,0,none⟩ (.int .i64 (n2:Int))).frozen? ⟨H+3,0,none⟩=false:=by simp [World.frozen?,hB3]
 refine held_skip 19 (by kernel_rfl) rfl rfl (by rfl) (w':=Wy.setCell ⟨H+2,0,none⟩ (.int .i64 (n2:Int))) ?_ hHy3 ?_
 ·go_simp
 refine held_skip 20 (by kernel_rfl) rfl rfl (by rfl) (w':=(Wy.setCell ⟨H+2,0,none⟩ (.int .i64 (n2:Int))).setCell ⟨H+3,0,none⟩ (.int .i64 (d2:Int))) ?_ hHy4 ?_
 ·go_simp
 refine wpAnyH_done (by kernel_rfl) ?_ _
 refine NoPanic.normal ?_
 have HBX:=qz hbest
 have HBE:Hid (Below H w ((Wy.setCell ⟨H+2,0,none⟩ (.int .i64 (n2:Int))).setCell ⟨H+3,0,none⟩ (.int .i64 (d2:Int)))):=qz (((uh HKy).setCell (by show H≤H+2;omega) _).setCell (by show H≤H+3;omega) _)
 have HC2:Hid (((Wy.setCell ⟨H+2,0,none⟩ (.int .i64 (n2:Int))).setCell ⟨H+3,0,none⟩ (.int .i64 (d2:Int))).cell? ⟨H+2,0,none⟩=some (.int .i64 (n2:Int))∧((Wy.setCell ⟨H+2,0,none⟩ (.int .i64 (n2:Int))).setCell ⟨H+3,0,none⟩ (.int .i64 (d2:Int))).cell? ⟨H+3,0,none⟩=some (.int .i64 (d2:Int))):=qz ⟨by rw [World.cell?_of_block (heap_setCell_other _ _ _ _ (by show H+2≠H+3;omega))];simp only [World.cell?,heap_setCell_same _ (H+2) 0 _ 3 _ hA2];rfl,by simp only [World.cell?,heap_setCell_same _ (H+3) 0 _ 3 _ hB3];rfl⟩
 clear hbest hHy hHy3 hHy4 q1 q2 q3 q4 hA2 hA3 hB3
 go_wp2_with fail
 refine bodyPost_ret (results_two rfl _ _ ⟨H+2,0,none⟩ ⟨H+3,0,none⟩ rfl rfl _ _ (uh HC2).1 (uh HC2).2) rfl ⟨n2,d2,rfl,uh HBX,by rw [← uh HHW];exact uh HBE⟩
end T6
end Go.Proofs.YtabeanealkopbaaGreat
