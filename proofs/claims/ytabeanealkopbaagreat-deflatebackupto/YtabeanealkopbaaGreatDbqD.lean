/- Texts of one proof, one behind the other: Codes, Blk, Fb, Kd, Bs, DeflH, DeflL, RunM, DeflR, DeflP, DeflB, DeflC, DeflD, St1, Find, Symw, Fxc, Wy0, Dg. -/
import Derived.Test.YtabeanealkopbaaGreatDbqC
import Derived.KernelRfl

set_option linter.unusedVariables false
set_option maxRecDepth 100000
set_option maxHeartbeats 24000000
namespace Go.Proofs.YtabeanealkopbaaGreat
section
open Go.RowKit Mth Infl
def CodIs (w:World) (B rb rp g:Nat) (zs:List Nat) (p:Nat) (v:Value) (out:List Nat) (most:Nat) (sv dv:Value) (e:Ending) (w':World):Prop :=
 Chg rb rp v w v w'∧((∃ (cs cd q:Nat) (l1 l2:List Nat),e=.returned (.tuple #[.pointer (some ⟨cs,0,none⟩),.pointer (some ⟨cd,0,none⟩),.int .i64 0])∧cod (Infl.bitsOf zs) p=.ok (l1,l2) q∧l1.length≤288∧l2.length≤32∧RAt w' B rb rp g zs q v out most sv dv∧COk l1 w' B cs v∧COk l2 w' B cd v) ∨
  (∃ b:Nat,b≠0∧b<100∧e=.returned (.tuple #[.pointer none,.pointer none,.int .i64 (b:Int)])∧cod (Infl.bitsOf zs) p=.bad b))
section
variable {rb rp:Nat} {v:Value} {w w':World} {B g p q most:Nat} {zs out:List Nat} {sv dv:Value}
theorem codes_ok (h:RAt w B rb rp g zs p v out most sv dv) (hz:zs.length≤140737488355328) :
  Calls Tryz.prog 106 #[.pointer (some ⟨rb,0,none⟩)] w fun e w'=>CodIs w B rb rp g zs p v out most sv dv e w':=by
 have HC:=qz (rcounts_ok h hz)
 clear h
 go_enter Tryz.func106,Tryz.ntmps106
 go_wp2_with fail
 refine wp_scope_on 0 rfl ?_
 go_wp2_with fail
 refine (uh HC).mono ?_
 rintro e w1 ⟨d1,⟨l,d,k,q1,rfl,g1,hl1,hl2,hd1,hd2,hk1,hk2,r1⟩ | ⟨b,gb,gb2,rfl,g1⟩⟩
 ·have HI:=qz (innerCode_ok r1 hz hk1 hk2)
  have HD1:=qz d1
  have HG1:=qz g1
  clear r1 d1 g1 HC
  go_wp2_with fail
  refine (uh HI).mono ?_
  rintro e w2 ⟨d2,⟨cp,q2,own,rfl,g2,hol,r2,c2⟩ | ⟨b,gb,gb2,rfl,g2⟩⟩
  ·obtain ⟨tot,htot⟩:∃ tot,tot=l+d:=⟨_,rfl⟩
   have HL:=qz (lengths_ok (tot:=tot) r2 hz c2 hol (by omega))
   have HD2:=qz ((uh HD1).trans d2)
   have HG2:=qz g2
   have hti:(l:Int)+(d:Int)=(tot:Int):=by omega
   have HTOT:=qz htot
   clear r2 d2 g2 HI c2 htot
   go_wp2_with fail
   refine (uh HL).mono ?_
   rintro e w3 ⟨d3,⟨lv,q3,all,rfl,g3,hal,hal15,r3,row⟩ | ⟨b,gb,gb2,rfl,g3⟩⟩
   ·obtain ⟨la,lc,hlv,hlc,hlb⟩:=own_slice row
    obtain ⟨gl,hla,hob⟩:=hlb (by have:=uh HTOT;omega)
    have k256:=row_cell row hob 256 (by have:=uh HTOT;omega)
    have HD3:=qz ((uh HD2).trans d3)
    have HG3:=qz g3
    have HR3:=qz r3
    have HROW:=qz row
    have HAL:=qz hal
    have H15:=qz hal15
    have HOB:=qz hob
    have HON:Hid (cod (Infl.bitsOf zs) p=(if all.getD 256 0=0 then Rd.fail 11 else okE (ce (all.take l) 15 true) (okE (ce (all.drop l) 15 true) (Rd.pure (all.take l,all.drop l)))) (Infl.bitsOf zs) q3):=qz (by unfold cod;rw [bind_of (uh HG1)];simp only;rw [bind_of (uh HG2),← uh HTOT,bind_of g3])
    subst hla
    rw [hal] at hlv hlc
    clear d3 g3 r3 row hal hal15 HL hlb
    subst hlv
    have t256:(256:Int)<(tot:Int):=by have:=uh HTOT;omega
    by_cases h0:all.getD 256 0=0
    ·rw [h0] at k256
     have HE:Hid (CodIs w B rb rp g zs p v out most sv dv (.returned (.tuple #[.pointer none,.pointer none,.int .i64 ((11:Nat):Int)])) w3):=qz ⟨uh HD3,.inr ⟨11,by decide,by decide,rfl,by rw [uh HON,if_pos h0];rfl⟩⟩
     clear h0 HON
     go_wp2_with fail
     go_step3
     refine ⟨rfl,?_⟩
     go_wp2_with fail
     rw [Exit.noGoto_ret]
     go_ret3
     exact uh HE
    ·have HON2:Hid (cod (Infl.bitsOf zs) p=(okE (ce (all.take l) 15 true) (okE (ce (all.drop l) 15 true) (Rd.pure (all.take l,all.drop l)))) (Infl.bitsOf zs) q3):=qz (by rw [uh HON,if_neg h0])
     generalize all.getD 256 0=y at k256 h0
     have t0:¬ (y:Int)=0:=by omega
     have t0b:((y:Int) == 0)=false:=by simp;omega
     have tl:(l:Int)≤(tot:Int):=by omega
     have tl2:¬ lc=l:=by omega
     have tl3:l≤lc:=by omega
     have tl4:(l:Int)≤(lc:Int):=by omega
     have hlen1:(all.take l).length=l:=by rw [List.length_take,uh HAL];omega
     have hlen2:(all.drop l).length=tot - l:=by rw [List.length_drop,uh HAL]
     have HROWD:Hid (w3.drew.ownsRow w2.heap.size 3 1 (.slice (some ⟨gl,0,none⟩) tot lc) all.length (all.map fun z:Nat=>iv (z:Int))):=qz (own_keep (uh HROW) (fun _ _=>rfl))
     have HDD:Hid (Chg rb rp v w v w3.drew):=qz ((uh HD3).drewN 1)
     have HRD:Hid (RAt w3.drew B rb rp g zs q3 v out most sv dv):=qz ((uh HR3).drewN 1)
     have HN:=qz (codesOf_ok (all.take l) (all.drop l) (.slice (some ⟨gl,0,none⟩) l lc) (.slice (some ⟨gl,l,none⟩) (tot - l) (lc - l)) w3.drew
      ⟨some ⟨gl,0,none⟩,lc,by rw [List.length_map,hlen1],fun _=>⟨gl,0,rfl,fun j hj=>by
       rw [List.length_map,hlen1] at hj
       rw [Nat.zero_add,row_cell (uh HROWD) (uh HOB) j (by rw [uh HAL];omega),List.getD_eq_getElem?_getD (l:=List.map _ _),List.getElem?_map,List.getElem?_take,if_pos hj,List.getD_eq_getElem?_getD,List.getElem?_eq_getElem (by rw [uh HAL];omega)]
       rfl⟩⟩
      ⟨some ⟨gl,l,none⟩,lc - l,by rw [List.length_map,hlen2],fun _=>⟨gl,l,rfl,fun j hj=>by
       rw [List.length_map,hlen2] at hj
       rw [row_cell (uh HROWD) (uh HOB) (l+j) (by rw [uh HAL];omega),List.getD_eq_getElem?_getD (l:=List.map _ _),List.getElem?_map,List.getElem?_drop,List.getD_eq_getElem?_getD,List.getElem?_eq_getElem (by rw [uh HAL];omega)]
       rfl⟩⟩
      (by rw [hlen1];omega) (by rw [hlen2];have:=uh HTOT;omega) (fun z hz=>uh H15 z (List.mem_of_mem_take hz)) (fun z hz=>uh H15 z (List.mem_of_mem_drop hz)))
     have HE:Hid (∀ w4,Below w3.drew.heap.size w3.drew w4→(ce (all.take l) 15 true=13∨ce (all.take l) 15 true=0∧ce (all.drop l) 15 true=13)→CodIs w B rb rp g zs p v out most sv dv (.returned (.tuple #[.pointer none,.pointer none,.int .i64 ((13:Nat):Int)])) w4):=qz fun w4 hb hce=>⟨(uh HDD).below' hb,.inr ⟨13,by decide,by decide,rfl,by
      rw [uh HON2]
      rcases hce with e | ⟨e1,e2⟩
      ·rw [e];rfl
      ·rw [e1,e2];rfl⟩⟩
     have HF:Hid (∀ w4 cs cd,Below w3.drew.heap.size w3.drew w4→ce (all.take l) 15 true=0→ce (all.drop l) 15 true=0→(∃ lo hi,Code (all.take l) w4 cs lo hi∧w3.drew.heap.size≤lo∧hi≤w4.heap.size)→(∃ lo hi,Code (all.drop l) w4 cd lo hi∧w3.drew.heap.size≤lo∧hi≤w4.heap.size) →
       CodIs w B rb rp g zs p v out most sv dv (.returned (.tuple #[.pointer (some ⟨cs,0,none⟩),.pointer (some ⟨cd,0,none⟩),.int .i64 0])) w4):=qz fun w4 cs cd hb e1 e2 c1 c2=>⟨(uh HDD).below' hb,.inl ⟨cs,cd,q3,all.take l,all.drop l,rfl,by rw [uh HON2,e1,e2];rfl,by rw [hlen1];omega,by rw [hlen2];have:=uh HTOT;omega,(uh HRD).below hb,COk.new (uh HRD) c1,COk.new (uh HRD) c2⟩⟩
     clear hlen1 hlen2 h0 HON
     go_wp2_with fail
     refine wp_region_noPanic ?_
     refine wp_region_held_drew (S:=fun _=>True) (by kernel_rfl) True.intro (fun hHeld=>?_)
     refine hT 0 42 rfl rfl hHeld nPp (v:=?_) (fun x hSx=>?_) ?_
     rotate_left 1
     ·go_simp <;> with_reducible rfl
     simp only [sA,sB]
     refine hT 1 43 rfl rfl hHeld nPp (v:=?_) (fun x hSx=>?_) ?_
     rotate_left 1
     ·go_simp <;> with_reducible rfl
     simp only [sA,sB]
     refine hT 2 44 rfl rfl hHeld nPp (v:=?_) (fun x hSx=>?_) ?_
     rotate_left 1
     ·go_simp <;> with_reducible rfl
     simp only [sA,sB]
     refine hT 3 45 rfl rfl hHeld nPp (v:=?_) (fun x hSx=>?_) ?_
     rotate_left 1
     ·go_simp <;> with_reducible rfl
     simp only [sA,sB]
     refine hT 4 46 rfl rfl hHeld nPp (v:=?_) (fun x hSx=>?_) ?_
     rotate_left 1
     ·go_simp <;> with_reducible rfl
     simp only [sA,sB]
     refine hT 5 47 rfl rfl hHeld nPp (v:=?_) (fun x hSx=>?_) ?_
     rotate_left 1
     ·go_simp <;> with_reducible rfl
     simp only [sA,sB]
     refine held_enter 6 48 (by kernel_rfl) rfl rfl (by rfl) (by go_simp <;> exact ⟨rfl,rfl⟩) ?_
     refine (uh HN).mono ?_
     rintro e w4 ⟨hb,⟨cs,cd,e1,e2,rfl,c1,c2⟩ | ⟨hce,rfl⟩⟩
     ·have HFF:=qz (uh HF w4 cs cd hb e1 e2 c1 c2)
      clear hb e1 e2 c1 c2
      refine ⟨_,rfl,True.intro,?_⟩
      simp only [sA,sB]
      replace hHeld:True:=True.intro
      refine hT 7 49 rfl rfl hHeld nPp (v:=?_) (fun x hSx=>?_) ?_
      rotate_left 1
      ·go_simp <;> with_reducible rfl
      simp only [sA,sB]
      refine hT 8 50 rfl rfl hHeld nPp (v:=?_) (fun x hSx=>?_) ?_
      rotate_left 1
      ·go_simp <;> with_reducible rfl
      simp only [sA,sB]
      refine hT 9 51 rfl rfl hHeld nPp (v:=?_) (fun x hSx=>?_) ?_
      rotate_left 1
      ·go_simp <;> with_reducible rfl
      simp only [sA,sB]
      refine hT 10 2 rfl rfl hHeld nPp (v:=?_) (fun x hSx=>?_) ?_
      rotate_left 1
      ·go_simp <;> with_reducible rfl
      simp only [sA,sB]
      refine hT 11 3 rfl rfl hHeld nPp (v:=?_) (fun x hSx=>?_) ?_
      rotate_left 1
      ·go_simp <;> with_reducible rfl
      simp only [sA,sB]
      refine hT 12 4 rfl rfl hHeld nPp (v:=?_) (fun x hSx=>?_) ?_
      rotate_left 1
      ·go_simp <;> with_reducible rfl
      simp only [sA,sB]
      refine wpAnyH_done (by kernel_rfl) ?_ _
      refine NoPanic.normal ?_
      clear hHeld
      go_wp2_with fail
      refine jump_ret_of ?_
      go_ret3
      exact uh HFF
     ·have HFF:=qz (uh HE w4 hb hce)
      clear hb hce
      refine ⟨_,rfl,True.intro,?_⟩
      simp only [sA,sB]
      replace hHeld:True:=True.intro
      refine hT 7 49 rfl rfl hHeld nPp (v:=?_) (fun x hSx=>?_) ?_
      rotate_left 1
      ·go_simp <;> with_reducible rfl
      simp only [sA,sB]
      refine hT 8 50 rfl rfl hHeld nPp (v:=?_) (fun x hSx=>?_) ?_
      rotate_left 1
      ·go_simp <;> with_reducible rfl
      simp only [sA,sB]
      refine hT 9 51 rfl rfl hHeld nPp (v:=?_) (fun x hSx=>?_) ?_
      rotate_left 1
      ·go_simp <;> with_reducible rfl
      simp only [sA,sB]
      refine hT 10 2 rfl rfl hHeld nPp (v:=?_) (fun x hSx=>?_) ?_
      rotate_left 1
      ·go_simp <;> with_reducible rfl
      simp only [sA,sB]
      refine hT 11 3 rfl rfl hHeld nPp (v:=?_) (fun x hSx=>?_) ?_
      rotate_left 1
      ·go_simp <;> with_reducible rfl
      simp only [sA,sB]
      refine hT 12 4 rfl rfl hHeld nPp (v:=?_) (fun x hSx=>?_) ?_
      rotate_left 1
      ·go_simp <;> with_reducible rfl
      simp only [sA,sB]
      refine wpAnyH_done (by kernel_rfl) ?_ _
      refine NoPanic.normal ?_
      clear hHeld
      go_wp2_with fail
      refine jump_ret_of ?_
      go_ret3
      exact uh HFF
   ·have HE:Hid (CodIs w B rb rp g zs p v out most sv dv (.returned (.tuple #[.pointer none,.pointer none,.int .i64 (b:Int)])) w3):=qz ⟨(uh HD2).trans d3,.inr ⟨b,gb,gb2,rfl,by unfold cod;rw [bind_of (uh HG1)];simp only;rw [bind_of (uh HG2),← uh HTOT,bind_bad g3]⟩⟩
    have hb1:¬ (b:Int)=0:=by omega
    have hb2:((b:Int) == 0)=false:=by simp;omega
    clear d3 g3 gb gb2
    go_wp2_with fail
    go_step3
    refine ⟨rfl,?_⟩
    go_wp2_with fail
    rw [Exit.noGoto_ret]
    go_ret3
    exact uh HE
  ·have HE:Hid (CodIs w B rb rp g zs p v out most sv dv (.returned (.tuple #[.pointer none,.pointer none,.int .i64 (b:Int)])) w2):=qz ⟨(uh HD1).trans d2,.inr ⟨b,gb,gb2,rfl,by unfold cod;rw [bind_of (uh HG1)];simp only;rw [bind_bad g2]⟩⟩
   have hb1:¬ (b:Int)=0:=by omega
   have hb2:((b:Int) == 0)=false:=by simp;omega
   clear d2 g2 gb gb2
   go_wp2_with fail
   go_step3
   refine ⟨rfl,?_⟩
   go_wp2_with fail
   rw [Exit.noGoto_ret]
   go_ret3
   exact uh HE
 ·have HE:Hid (CodIs w B rb rp g zs p v out most sv dv (.returned (.tuple #[.pointer none,.pointer none,.int .i64 (b:Int)])) w1):=qz ⟨d1,.inr ⟨b,gb,gb2,rfl,by unfold cod;rw [bind_bad g1]⟩⟩
  have hb1:¬ (b:Int)=0:=by omega
  have hb2:((b:Int) == 0)=false:=by simp;omega
  clear d1 g1 gb gb2
  go_wp2_with fail
  go_step3
  refine ⟨rfl,?_⟩
  go_wp2_with fail
  rw [Exit.noGoto_ret]
  go_ret3
  exact uh HE
end
end
section
open Go.RowKit Mth Infl
def FixOk (w:World) (B:Nat) (v sv dv:Value):Prop:=sv=.pointer none∨∃ cs cd,sv=.pointer (some ⟨cs,0,none⟩)∧dv=.pointer (some ⟨cd,0,none⟩)∧COk fixedL w B cs v∧COk fixedD w B cd v
def BlkIs (r:Res (List Nat)) (w:World) (B rb rp g:Nat) (zs:List Nat) (v:Value) (most:Nat) (e:Ending) (w':World):Prop :=
 (∃ v' o q sv' dv',r=.ok o q∧e=.returned (.int .i64 0)∧RAt w' B rb rp g zs q v' o most sv' dv'∧FixOk w' B v' sv' dv'∧Chg rb rp v w v' w')∨(∃ (b:Nat) (v':Value),r=.bad b∧b≠0∧b<100∧e=.returned (.int .i64 (b:Int))∧Chg rb rp v w v' w')
section
variable {rb rp:Nat} {v v1:Value} {w w1 w':World} {B g p q most:Nat} {zs out:List Nat} {sv dv:Value}
theorem FixOk.chg (h:FixOk w B v sv dv) (c:Chg rb rp v w v1 w1) (lb:rb<B) (lp:rp<B):FixOk w1 B v1 sv dv:=by
 rcases h with h | ⟨cs,cd,e1,e2,c1,c2⟩
 ·exact .inl h
 ·exact .inr ⟨cs,cd,e1,e2,c1.chg c lb lp,c2.chg c lb lp⟩
theorem Did.blk {r:Res (List Nat)} {e:Ending} (h:Did r w1 B rb rp g zs v most sv dv e w') (c:Chg rb rp v w v w1) (hf:FixOk w1 B v sv dv):BlkIs r w B rb rp g zs v most e w':=by
 rcases h with ⟨v',o,q,h1,h2,h3,h4⟩ | ⟨b,v',h1,h2,h3,h4,h5⟩
 ·exact .inl ⟨v',o,q,sv,dv,h1,h2,h3,hf.chg h4 h3.lb h3.lp,c.trans h4⟩
 ·exact .inr ⟨b,v',h1,h2,h3,h4,c.trans h5⟩
theorem fixedL_is:fixedL=(List.range 288).map fx:=rfl
theorem fixedL_len:fixedL.length=288:=by rw [fixedL_is];simp
theorem fixedD_len:fixedD.length=32:=by unfold fixedD;simp
theorem ints_reads {g n:Nat} {C:Nat→Nat} (h:IntsAt w .i64 3 g n C) (ls:List Nat) (hl:ls=(List.range n).map C):ReadsN w (.slice (some ⟨g,0,none⟩) n n) ls:=by
 subst hl
 refine ⟨some ⟨g,0,none⟩,n,by simp,fun _=>⟨g,0,rfl,fun j hj=>?_⟩⟩
 simp at hj
 have e:(((List.range n).map C).map fun l:Nat=>(l:Int))[j]?=some (C j:Int):=by
  rw [List.map_map,List.getElem?_map,List.getElem?_range hj];rfl
 rw [Nat.zero_add,h.cell j hj,List.getD_eq_getElem?_getD,e]
 rfl
theorem fixedL_le:∀ l∈fixedL,l≤15:=by
 intro l hl
 rw [fixedL_is,List.mem_map] at hl
 obtain ⟨i,_,rfl⟩:=hl
 unfold fx
 split
 ·decide
 ·split <;> decide
theorem fixedD_le:∀ l∈fixedD,l≤15:=by
 intro l hl
 rw [List.eq_of_mem_replicate hl];decide
theorem ce_fixedL:ce fixedL 15 true=0:=by
 rcases ce_cases fixedL 15 true with ⟨h,_⟩ | ⟨_,h⟩
 ·exact h
 ·exact absurd (.inl fixedL_full) h
theorem ce_fixedD:ce fixedD 15 true=0:=by
 rcases ce_cases fixedD 15 true with ⟨h,_⟩ | ⟨_,h⟩
 ·exact h
 ·exact absurd (.inl fixedD_full) h
theorem ownBlock_ok (h:RAt w B rb rp g zs p v out most sv dv) (hf:FixOk w B v sv dv) (hz:zs.length≤140737488355328) (hm:most≤268435456) :
  Calls Tryz.prog 77 #[.pointer (some ⟨rb,0,none⟩)] w fun e w'=>∃ F,BlkIs (told gg ce most F out (Infl.bitsOf zs) p) w B rb rp g zs v most e w':=by
 have HC:=qz (codes_ok h hz)
 have HF:=qz hf
 have HLB:=qz (And.intro h.lb h.lp)
 clear h hf
 go_enter Tryz.func77,Tryz.ntmps77
 go_wp2_with fail
 refine (uh HC).mono ?_
 rintro e w1 ⟨d1,⟨cs,cd,q1,l1,l2,rfl,g1,hl1,hl2,r1,c1,c2⟩ | ⟨b,gb,gb2,rfl,g1⟩⟩
 ·have HT:=qz (tokens_ok r1 hz hm c1 hl1 c2 hl2)
  have HD1:=qz d1
  have HG1:=qz g1
  clear r1 c1 c2 d1 g1 HC
  go_wp2_with fail
  refine (uh HT).mono ?_
  rintro e w2 ⟨F,hd⟩
  have HE:Hid (BlkIs (told gg ce most F out (Infl.bitsOf zs) p) w B rb rp g zs v most e w2):=qz (by
   rw [told_cod,bind_of (uh HG1)]
   exact hd.blk (uh HD1) ((uh HF).chg (uh HD1) (uh HLB).1 (uh HLB).2))
  rcases hd with ⟨v',o,q,_,rfl,_,_⟩ | ⟨b,v',_,_,_,rfl,_⟩
  ·go_wp2_with fail
   go_ret
   exact ⟨F,uh HE⟩
  ·go_wp2_with fail
   go_ret
   exact ⟨F,uh HE⟩
 ·have HE:Hid (∃ F,BlkIs (told gg ce most F out (Infl.bitsOf zs) p) w B rb rp g zs v most (.returned (.int .i64 (b:Int))) w1):=qz ⟨0,.inr ⟨b,v,by rw [told_cod,bind_bad g1],gb,gb2,rfl,d1⟩⟩
  have hb1:¬ (b:Int)=0:=by omega
  have hb2:((b:Int) == 0)=false:=by simp;omega
  clear d1 g1 gb gb2
  go_wp2_with fail
  go_ret
  exact uh HE
theorem storedBlock_ok (h:RAt w B rb rp g zs p v out most sv dv) (hf:FixOk w B v sv dv) (hz:zs.length≤140737488355328) (hm:most≤268435456) :
  Calls Tryz.prog 75 #[.pointer (some ⟨rb,0,none⟩)] w fun e w'=>BlkIs (Infl.stored most out (Infl.bitsOf zs) p) w B rb rp g zs v most e w' :=
 (stored_ok h hz hm).mono fun e w' hd=>hd.blk (Chg.refl _ _ _ _) hf
end
end
section
open Go.RowKit Mth Infl
section
variable {rb rp:Nat} {v v1:Value} {w w1 w':World} {B g p q most:Nat} {zs out:List Nat} {sv dv:Value}
theorem fixedBlock_there {cs cd:Nat} (h:RAt w B rb rp g zs p v out most (.pointer (some ⟨cs,0,none⟩)) (.pointer (some ⟨cd,0,none⟩))) (c1:COk fixedL w B cs v) (c2:COk fixedD w B cd v) (hz:zs.length≤140737488355328) (hm:most≤268435456) :
  Calls Tryz.prog 76 #[.pointer (some ⟨rb,0,none⟩)] w fun e w'=>∃ F,BlkIs (toks gg fixedL fixedD most F out (Infl.bitsOf zs) p) w B rb rp g zs v most e w':=by
 have k3:=h.c3
 have hd:Chg rb rp v w v w.drew:=(Chg.refl _ _ _ _).drewN 1
 have r1:RAt w.drew B rb rp g zs p v out most (.pointer (some ⟨cs,0,none⟩)) (.pointer (some ⟨cd,0,none⟩)):=h.drewN 1
 have HT:=qz (tokens_ok r1 hz hm (c1.chg hd h.lb h.lp) (by rw [fixedL_len];decide) (c2.chg hd h.lb h.lp) (by rw [fixedD_len];decide))
 have HB:Hid (∀ F e w',Did (toks gg fixedL fixedD most F out (Infl.bitsOf zs) p) w.drew B rb rp g zs v most (.pointer (some ⟨cs,0,none⟩)) (.pointer (some ⟨cd,0,none⟩)) e w'→BlkIs (toks gg fixedL fixedD most F out (Infl.bitsOf zs) p) w B rb rp g zs v most e w'):=qz fun F e w' hdid=>hdid.blk hd (.inr ⟨cs,cd,rfl,rfl,c1.chg hd h.lb h.lp,c2.chg hd h.lb h.lp⟩)
 have j3:=r1.c3
 have j4:=r1.c4
 clear h c1 c2 hd r1
 go_enter Tryz.func76,Tryz.ntmps76
 go_wp2_with fail
 refine wp_tail 9 (by kernel_rfl) (by kernel_rfl) ?_
 simp only [List.take_succ_cons,List.take_zero,List.drop_succ_cons,List.drop_zero]
 repeat still_step
 try refine wpStill_nil ?_
 go_wp2_with fail
 refine (uh HT).mono ?_
 rintro e w2 ⟨F,hd⟩
 have HE:=qz (uh HB F e w2 hd)
 rcases hd with ⟨v',o,q,_,rfl,_,_⟩ | ⟨b,v',_,_,_,rfl,_⟩
 ·go_wp2_with fail
  go_ret
  exact ⟨F,uh HE⟩
 ·go_wp2_with fail
  go_ret
  exact ⟨F,uh HE⟩
theorem fixedBlock_new (h:RAt w B rb rp g zs p v out most (.pointer none) dv) (hz:zs.length≤140737488355328) (hm:most≤268435456) :
  Calls Tryz.prog 76 #[.pointer (some ⟨rb,0,none⟩)] w fun e w'=>∃ F,BlkIs (toks gg fixedL fixedD most F out (Infl.bitsOf zs) p) w B rb rp g zs v most e w':=by
 have k3:=h.c3
 have HR:=qz h
 clear h
 go_enter Tryz.func76,Tryz.ntmps76
 go_wp2_with fail
 refine (fixed_ok _).mono ?_
 rintro e w1 ⟨rfl,a1,b1⟩
 have A1:=qz a1
 have B1:=qz b1
 clear a1 b1
 go_wp2_with fail
 refine (fives_ok _).mono ?_
 rintro e w2 ⟨rfl,a2,b2⟩
 have HB2:Hid (Below w.heap.size w w2):=qz ((uh B1).trans (b2.mono (uh B1).size))
 have HN:=qz (codesOf_ok fixedL fixedD _ _ w2 ((ints_reads (uh A1) fixedL fixedL_is).stays b2) (ints_reads a2 fixedD (by decide)) (by rw [fixedL_len];decide) (by rw [fixedD_len];decide) fixedL_le fixedD_le)
 clear a2 b2 A1 B1
 go_wp2_with fail
 refine (uh HN).mono ?_
 rintro e w3 ⟨hb,⟨cs,cd,e1,e2,rfl,c1,c2⟩ | ⟨hce,rfl⟩⟩
 ·have r2:=(uh HR).below (uh HB2)
  have r3:=r2.below hb
  have hd3:Chg rb rp v w v w3:=Chg.of_below _ _ _ ((uh HB2).trans (hb.mono (uh HB2).size))
  have hc1:COk fixedL w3 B cs v:=COk.new r2 c1
  have hc2:COk fixedD w3 B cd v:=COk.new r2 c2
  have r4:=r3.codes (.pointer (some ⟨cs,0,none⟩)) (.pointer (some ⟨cd,0,none⟩))
  have hd4:=(Chg.refl rb rp v w3).codes (.pointer (some ⟨cs,0,none⟩)) (.pointer (some ⟨cd,0,none⟩))
  have f3:=r3.fz 3
  have f4:=r3.fz 4
  have k3':=r3.c3
  have k4':=r3.c4
  have HR4:=qz r4
  have HD4:=qz (hd3.trans hd4)
  have HC1:=qz (hc1.chg hd4 r3.lb r3.lp)
  have HC2:=qz (hc2.chg hd4 r3.lb r3.lp)
  clear r2 r3 hd3 hc1 hc2 r4 hd4 hb e1 e2 c1 c2 HN HB2 HR k3
  go_upto_region 5 with fail
  clear f3 f4 k3' k4'
  generalize (w3.setCell ⟨rb,3,none⟩ (.pointer (some ⟨cs,0,none⟩))).setCell ⟨rb,4,none⟩ (.pointer (some ⟨cd,0,none⟩))=w4 at HR4 HD4 HC1 HC2 ⊢
  have hd:Chg rb rp v w4 v w4.drew:=(Chg.refl _ _ _ _).drewN 1
  have r5:RAt w4.drew B rb rp g zs p v out most (.pointer (some ⟨cs,0,none⟩)) (.pointer (some ⟨cd,0,none⟩)):=(uh HR4).drewN 1
  have HT:=qz (tokens_ok r5 hz hm ((uh HC1).chg hd r5.lb r5.lp) (by rw [fixedL_len];decide) ((uh HC2).chg hd r5.lb r5.lp) (by rw [fixedD_len];decide))
  have HB:Hid (∀ F e w',Did (toks gg fixedL fixedD most F out (Infl.bitsOf zs) p) w4.drew B rb rp g zs v most (.pointer (some ⟨cs,0,none⟩)) (.pointer (some ⟨cd,0,none⟩)) e w'→BlkIs (toks gg fixedL fixedD most F out (Infl.bitsOf zs) p) w B rb rp g zs v most e w'):=qz fun F e w' hdid=>hdid.blk ((uh HD4).trans hd) (.inr ⟨cs,cd,rfl,rfl,(uh HC1).chg hd r5.lb r5.lp,(uh HC2).chg hd r5.lb r5.lp⟩)
  have j3:=r5.c3
  have j4:=r5.c4
  clear r5 hd HR4 HD4 HC1 HC2
  refine wp_tail 9 (by kernel_rfl) (by kernel_rfl) ?_
  simp only [List.take_succ_cons,List.take_zero,List.drop_succ_cons,List.drop_zero]
  repeat still_step
  try refine wpStill_nil ?_
  go_wp2_with fail
  refine (uh HT).mono ?_
  rintro e w5 ⟨F,hd⟩
  have HE:=qz (uh HB F e w5 hd)
  rcases hd with ⟨v',o,q,_,rfl,_,_⟩ | ⟨b,v',_,_,_,rfl,_⟩
  ·go_wp2_with fail
   go_ret
   exact ⟨F,uh HE⟩
  ·go_wp2_with fail
   go_ret
   exact ⟨F,uh HE⟩
 ·exfalso
  rcases hce with hce | ⟨_,hce⟩
  ·rw [ce_fixedL] at hce;cases hce
  ·rw [ce_fixedD] at hce;cases hce
theorem fixedBlock_ok (h:RAt w B rb rp g zs p v out most sv dv) (hf:FixOk w B v sv dv) (hz:zs.length≤140737488355328) (hm:most≤268435456) :
  Calls Tryz.prog 76 #[.pointer (some ⟨rb,0,none⟩)] w fun e w'=>∃ F,BlkIs (toks gg fixedL fixedD most F out (Infl.bitsOf zs) p) w B rb rp g zs v most e w':=by
 rcases hf with rfl | ⟨cs,cd,rfl,rfl,c1,c2⟩
 ·exact fixedBlock_new h hz hm
 ·exact fixedBlock_there h c1 c2 hz hm
end
end
section
open Go.RowKit Mth Infl
def kindF (x rb:Nat):Value:=.func (.func (75+x)) #[.pointer (some ⟨rb,0,none⟩)] #[]
def KindIs (w:World) (B rb rp g:Nat) (zs:List Nat) (p:Nat) (v:Value) (out:List Nat) (most:Nat) (sv dv:Value) (e:Ending) (w':World):Prop :=
 Chg rb rp v w v w'∧∃ x q b,GotIs 2 zs p x q b∧RAt w' B rb rp g zs q v out most sv dv∧((b=0∧x<3∧e=.returned (.tuple #[kindF x rb,.int .i64 0]))∨(b=0∧x=3∧e=.returned (.tuple #[.nilFunc,.int .i64 16]))∨(b=10∧e=.returned (.tuple #[.nilFunc,.int .i64 10])))
section
variable {rb rp:Nat} {v v1:Value} {w w1 w':World} {B g p q most:Nat} {zs out:List Nat} {sv dv:Value}
theorem kind_ok (h:RAt w B rb rp g zs p v out most sv dv) (hz:zs.length≤140737488355328) :
  Calls Tryz.prog 49 #[.pointer (some ⟨rb,0,none⟩)] w fun e w'=>KindIs w B rb rp g zs p v out most sv dv e w':=by
 have HG:=qz (rget 2 h hz (by decide))
 have c0:=h.c0
 clear h
 go_enter Tryz.func49,Tryz.ntmps49
 go_wp2_with fail
 refine (uh HG).mono ?_
 rintro e w1 ⟨x,q,b,rfl,r1,d1,g1⟩
 have HK:Hid (∀ e,((b=0∧x<3∧e=.returned (.tuple #[kindF x rb,.int .i64 0]))∨(b=0∧x=3∧e=.returned (.tuple #[.nilFunc,.int .i64 16]))∨(b=10∧e=.returned (.tuple #[.nilFunc,.int .i64 10])))→KindIs w B rb rp g zs p v out most sv dv e w1):=qz fun e he=>⟨d1,x,q,b,g1,r1,he⟩
 rcases g1 with ⟨rfl,_,gx,_⟩ | ⟨rfl,rfl,_⟩
 ·have hx:x<4:=gx
  clear gx r1 d1
  rcases (show x=0∨x=1∨x=2∨x=3 by omega) with rfl | rfl | rfl | rfl
  ·have HE:=qz (uh HK _ (.inl ⟨rfl,by decide,rfl⟩))
   clear HK
   go_wp2_with fail
   go_ret2
   exact uh HE
  ·have HE:=qz (uh HK _ (.inl ⟨rfl,by decide,rfl⟩))
   clear HK
   go_wp2_with fail
   go_ret2
   exact uh HE
  ·have HE:=qz (uh HK _ (.inl ⟨rfl,by decide,rfl⟩))
   clear HK
   go_wp2_with fail
   go_ret2
   exact uh HE
  ·have HE:=qz (uh HK _ (.inr (.inl ⟨rfl,rfl,rfl⟩)))
   clear HK
   go_wp2_with fail
   go_ret2
   exact uh HE
 ·have HE:=qz (uh HK _ (.inr (.inr ⟨rfl,rfl⟩)))
  clear HK r1 d1
  go_wp2_with fail
  go_ret2
  exact uh HE
end
end
section
open Go.RowKit Mth Infl
noncomputable def byKind (x most F:Nat) (out:List Nat):Rd (List Nat):=if x=0 then Infl.stored most out else if x=1 then toks gg fixedL fixedD most F out else if x=2 then told gg ce most F out else Rd.fail 16
theorem block_by (most F:Nat) (out:List Nat):Infl.block gg ce most F out=(Infl.get 1).bind fun last=>(Infl.get 2).bind fun kind=>(byKind kind most F out).bind fun o=>Rd.pure (last,o):=rfl
theorem loc_byKind (x most F:Nat) (out:List Nat):Infl.Loc (byKind x most F out):=Infl.Loc.ite (Infl.Loc.stored most out) (.ite (Infl.Loc.toks gg_gl _ _ most F out) (.ite (Infl.Loc.told gg_gl most F out) (.fail _)))
def Goes (most:Nat) (zs oi:List Nat) (q:Nat):Prop:=∃ n F0,∀ F,F0≤F→∀ k,Infl.blocks gg ce most F (k+n) [] (Infl.bitsOf zs) 0=Infl.blocks gg ce most F k oi (Infl.bitsOf zs) q
theorem Goes.start (most:Nat) (zs:List Nat):Goes most zs [] 0:=⟨0,0,fun _ _ _=>rfl⟩
section
variable {most:Nat} {zs oi o:List Nat} {q q1 q2 q3 last x F b:Nat}
theorem block_is (h1:Infl.get 1 (Infl.bitsOf zs) q=.ok last q1) (h2:Infl.get 2 (Infl.bitsOf zs) q1=.ok x q2) (h3:byKind x most F oi (Infl.bitsOf zs) q2=.ok o q3):Infl.block gg ce most F oi (Infl.bitsOf zs) q=.ok (last,o) q3:=by
 rw [block_by,bind_of h1,bind_of h2,bind_of h3]
 rfl
theorem Goes.next (h:Goes most zs oi q) (hb:Infl.block gg ce most F oi (Infl.bitsOf zs) q=.ok (0,o) q3):Goes most zs o q3:=by
 obtain ⟨n,F0,hn⟩:=h
 refine ⟨n+1,max F0 F,fun F' hF k=>?_⟩
 rw [show k+(n+1)=(k+1)+n from by omega,hn F' (by omega) (k+1),Infl.blocks]
 have hb':Infl.block gg ce most F' oi (Infl.bitsOf zs) q=.ok (0,o) q3:=by
  rw [Up.block (g:=gg) (ce:=ce) most F F' oi (by omega) _ _ (by rw [hb];simp),hb]
 rw [bind_of hb']
 simp only
 rw [if_neg (by decide)]
theorem Goes.fin (h:Goes most zs oi q) (hb:Infl.block gg ce most F oi (Infl.bitsOf zs) q=.ok (1,o) q3):Tells gg ce (Infl.bitsOf zs) most (.ok o q3):=by
 obtain ⟨n,F0,hn⟩:=h
 refine ⟨by simp,max F0 F,1+n,?_⟩
 rw [hn (max F0 F) (by omega) 1,Infl.blocks]
 have hb':Infl.block gg ce most (max F0 F) oi (Infl.bitsOf zs) q=.ok (1,o) q3:=by
  rw [Up.block (g:=gg) (ce:=ce) most F (max F0 F) oi (by omega) _ _ (by rw [hb];simp),hb]
 rw [bind_of hb']
 rfl
theorem Goes.bad (h:Goes most zs oi q) (hb:Infl.block gg ce most F oi (Infl.bitsOf zs) q=.bad b):Tells gg ce (Infl.bitsOf zs) most (.bad b):=by
 obtain ⟨n,F0,hn⟩:=h
 refine ⟨by simp,max F0 F,1+n,?_⟩
 rw [hn (max F0 F) (by omega) 1,Infl.blocks]
 have hb':Infl.block gg ce most (max F0 F) oi (Infl.bitsOf zs) q=.bad b:=by
  rw [Up.block (g:=gg) (ce:=ce) most F (max F0 F) oi (by omega) _ _ (by rw [hb];simp),hb]
 rw [bind_bad hb']
end
def ReadIs (r:Res (List Nat)) (most:Nat) (zs:List Nat) (w:World) (e:Ending) (w':World):Prop :=
 Below w.heap.size w w'∧((∃ (o:List Nat) (q:Nat) (v':Value),r=.ok o q∧e=.returned (.tuple #[v',.int .i64 (((q+7) / 8:Nat):Int),.int .i64 0])∧w'.ownsRow w.heap.size 5 1 v' o.length (o.map bv)∧(∀ z∈o,z<256)∧o.length≤most∧q≤8*zs.length) ∨
  (∃ b:Nat,r=.bad b∧b≠0∧b<100∧e=.returned (.tuple #[.slice none 0 0,.int .i64 0,.int .i64 (b:Int)])))
structure BsAt (w ws:World) (B rb rp g:Nat) (zs:List Nat) (q:Nat) (vi:Value) (oi:List Nat) (most:Nat) (sv dv:Value):Prop where
 rat:RAt ws B rb rp g zs q vi oi most sv dv
 fix:FixOk ws B vi sv dv
 bel:Below w.heap.size w ws
 lo:w.heap.size≤rb∧w.heap.size≤rp
section
variable {rb rp:Nat} {v v1 vi:Value} {w ws w1 w':World} {B g p q q' most:Nat} {zs out oi o:List Nat} {sv dv sv' dv':Value}
theorem BsAt.next (h:BsAt w ws B rb rp g zs q vi oi most sv dv) (hr:RAt w1 B rb rp g zs q' v1 o most sv' dv') (hf:FixOk w1 B v1 sv' dv') (hc:Chg rb rp vi ws v1 w1):BsAt w w1 B rb rp g zs q' v1 o most sv' dv' :=
 ⟨hr,hf,h.bel.trans (hc.below h.lo.1 h.lo.2 h.bel.size (fun k e=>by have:=(h.rat.own e).1;have:=h.rat.lb;have:=h.lo;omega)),h.lo⟩
theorem BsAt.gone (h:BsAt w ws B rb rp g zs q vi oi most sv dv) (hc:Chg rb rp vi ws v1 w1):Below w.heap.size w w1 :=
 h.bel.trans (hc.below h.lo.1 h.lo.2 h.bel.size (fun k e=>by have:=(h.rat.own e).1;have:=h.rat.lb;have:=h.lo;omega))
end
end
end Go.Proofs.YtabeanealkopbaaGreat
section
namespace Go.Proofs.YtabeanealkopbaaGreat
open Infl
namespace Defl
def stepOk (all:List Nat) (s m v n:Nat):Prop :=
 (s≤15∧m=0∧v=s∧n=1)∨(s=16∧m<4∧all≠[]∧v=all.getD (all.length - 1) 0∧n=3+m)∨(s=17∧m<8∧v=0∧n=3+m)∨(s=18∧m<128∧v=0∧n=11+m)
theorem stepOk.pos {all:List Nat} {s m v n:Nat} (h:stepOk all s m v n):1≤n∧s<19:=by
 rcases h with ⟨_,_,_,h⟩ | ⟨h',_,_,_,h⟩ | ⟨h',_,_,h⟩ | ⟨h',_,_,h⟩ <;> omega
def xb (s:Nat):Nat:=if s=16 then 2 else if s=17 then 3 else if s=18 then 7 else 0
def rbits (z:List Nat) (r:Nat × Nat):List Bool:=wb z r.1++nb r.2 (xb r.1)
def RunsTo:List Nat→List (Nat × Nat)→List Nat→Prop
 | all,[],tgt=>all=tgt
 | all,r :: rs,tgt=>∃ v n,stepOk all r.1 r.2 v n∧RunsTo (all++List.replicate n v) rs tgt
theorem RunsTo.le:∀ {rs:List (Nat × Nat)} {all tgt:List Nat},RunsTo all rs tgt→all.length+rs.length≤tgt.length
 | [],all,tgt,h=>by
  have:all=tgt:=h
  subst this
  simp
 | r :: rs,all,tgt,h=>by
  obtain ⟨v,n,h1,h2⟩:=h
  have:=h2.le
  have:=h1.pos
  rw [List.length_append,List.length_replicate] at *
  simp
  omega
theorem stp_bits {all:List Nat} {s m v n:Nat} (h:stepOk all s m v n) {I:In} {p:Nat} (hl:Lies I p (nb m (xb s))):stp all s I p=.ok (v,n) (p+xb s):=by
 unfold stp
 rcases h with ⟨h1,rfl,rfl,rfl⟩ | ⟨rfl,h1,h2,rfl,rfl⟩ | ⟨rfl,h1,rfl,rfl⟩ | ⟨rfl,h1,rfl,rfl⟩
 ·rw [if_neg (by omega),if_neg (by omega),if_neg (by omega)]
  unfold xb
  rw [if_neg (by omega),if_neg (by omega),if_neg (by omega)]
  rfl
 ·rw [if_pos rfl,bind_of (get_nb (n:=2) hl h1),if_neg h2]
  rfl
 ·rw [if_neg (by decide),if_pos rfl,bind_of (get_nb (n:=3) hl h1)]
  rfl
 ·rw [if_neg (by decide),if_neg (by decide),if_pos rfl,bind_of (get_nb (n:=7) hl h1)]
  rfl
theorem lens_bits {z:List Nat} (gz:Good z) (hz:z.length=19) {I:In} {tot:Nat} {tgt:List Nat} (ht:tgt.length=tot):∀ (rs:List (Nat × Nat)) (all:List Nat) (p f:Nat),RunsTo all rs tgt→(∀ r∈rs,0<Canon.ln z r.1)→tot≤all.length+f→Lies I p ((rs.map (rbits z)).flatten) →
  lens gg z tot f all I p=.ok tgt (p+((rs.map (rbits z)).flatten).length)
 | [],all,p,f,h,_,_,_=>by
  have e:all=tgt:=h
  subst e
  rw [lens_done z tot f all (by omega)]
  rfl
 | r :: rs,all,p,f,h,hw,hf,hl=>by
  have hle:=RunsTo.le h
  obtain ⟨v,n,h1,h2⟩:=h
  have hp:=h1.pos
  rw [List.length_cons] at hle
  obtain ⟨f',rfl⟩:∃ f',f=f'+1:=⟨f - 1,by omega⟩
  rw [List.map_cons,List.flatten_cons] at hl ⊢
  have l1:=hl.left
  unfold rbits at l1
  have w1:=word_wb gz (by omega) (hw r (by simp)) l1.left
  have l2:=l1.right
  rw [wb_length] at l2
  have w2:=stp_bits h1 l2
  have hle2:=RunsTo.le h2
  rw [List.length_append,List.length_replicate] at hle2
  rw [lens_stp z tot f' all (by omega),bind_of w1,bind_of w2]
  simp only
  rw [if_neg (by omega)]
  have l3:=hl.right
  have e:(rbits z r).length=Canon.ln z r.1+xb r.1:=by unfold rbits;rw [List.length_append,wb_length,nb_length]
  rw [e,← Nat.add_assoc] at l3
  rw [lens_bits gz hz ht rs (all++List.replicate n v) _ f' h2 (fun x hx=>hw x (by simp [hx])) (by rw [List.length_append,List.length_replicate];omega) l3]
  rw [List.length_append,e]
  congr 1
  omega
def tbits3 (vs:List Nat):List Bool:=(vs.map fun v=>nb v 3).flatten
theorem tbits3_length:∀ vs:List Nat,(tbits3 vs).length=3*vs.length
 | []=>rfl
 | v :: vs=>by
  have:=tbits3_length vs
  unfold tbits3 at this ⊢
  rw [List.map_cons,List.flatten_cons,List.length_append,nb_length,this,List.length_cons]
  omega
theorem threes_bits {I:In}:∀ (vs l:List Nat) (p:Nat),(∀ v∈vs,v<8)→Lies I p (tbits3 vs)→threes vs.length l I p=.ok (l++vs) (p+3*vs.length)
 | [],l,p,_,_=>by rw [List.append_nil];rfl
 | v :: vs,l,p,h,hl=>by
  have e:tbits3 (v :: vs)=nb v 3++tbits3 vs:=by unfold tbits3;rw [List.map_cons,List.flatten_cons]
  rw [e] at hl
  have r:=hl.right
  rw [nb_length] at r
  rw [List.length_cons,threes_next vs.length l I p (p+3) v (get_nb hl.left (h v (by simp))),threes_bits vs (l++[v]) (p+3) (fun x hx=>h x (by simp [hx])) r]
  rw [List.append_assoc,List.singleton_append]
  congr 1
  omega
structure Plan where
 x:List Nat
 y:List Nat
 z:List Nat
 vs:List Nat
 rs:List (Nat × Nat)
def Plan.bits (c:Plan):List Bool:=nb (c.x.length - 257) 5++(nb (c.y.length - 1) 5++(nb (c.vs.length - 4) 4++(tbits3 c.vs++(c.rs.map (rbits c.z)).flatten)))
structure Plan.ok (c:Plan):Prop where
 x1:257≤c.x.length
 x2:c.x.length≤286
 y1:1≤c.y.length
 y2:c.y.length≤30
 v1:4≤c.vs.length
 v2:c.vs.length≤19
 v7:∀ v∈c.vs,v<8
 own:ownOf c.vs=c.z
 gz:Good c.z
 cz:ce c.z 7 false=0
 runs:RunsTo [] c.rs (c.x++c.y)
 has:∀ r∈c.rs,0<Canon.ln c.z r.1
 e256:c.x.getD 256 0≠0
 cx:ce c.x 15 true=0
 cy:ce c.y 15 true=0
theorem cod_bits {c:Plan} (h:c.ok) {I:In} {p:Nat} (hl:Lies I p c.bits):cod I p=.ok (c.x,c.y) (p+c.bits.length):=by
 unfold Plan.bits at hl
 have g1:=get_nb hl.left (by have:=h.x2;have:=h.x1;omega)
 have r1:=hl.right
 rw [nb_length] at r1
 have g2:=get_nb r1.left (by have:=h.y2;have:=h.y1;omega)
 have r2:=r1.right
 rw [nb_length] at r2
 have g3:=get_nb r2.left (by have:=h.v2;have:=h.v1;omega)
 have r3:=r2.right
 rw [nb_length] at r3
 have g4:=threes_bits c.vs [] _ h.v7 r3.left
 have r4:=r3.right
 rw [tbits3_length] at r4
 have e1:c.x.length - 257+257=c.x.length:=by have:=h.x1;omega
 have e2:c.y.length - 1+1=c.y.length:=by have:=h.y1;omega
 have e3:c.vs.length - 4+4=c.vs.length:=by have:=h.v1;omega
 have hcnt:cnt I p=.ok (c.x.length,c.y.length,c.vs.length) (p+5+5+4):=by
  unfold cnt
  rw [bind_of g1,bind_of g2,bind_of g3,e1,e2,e3,if_neg (by have:=h.x2;have:=h.y2;omega)]
  rfl
 have hinn:inn c.vs.length I (p+5+5+4)=.ok c.z (p+5+5+4+3*c.vs.length):=by
  unfold inn
  rw [bind_of g4,List.nil_append,h.own,h.cz]
  rfl
 have hz19:c.z.length=19:=by rw [← h.own,ownOf_length]
 have hlens:=lens_bits h.gz hz19 (tgt:=c.x++c.y) (tot:=c.x.length+c.y.length) List.length_append c.rs [] _ (c.x.length+c.y.length) h.runs h.has (by omega) r4
 unfold cod
 rw [bind_of hcnt]
 simp only
 rw [bind_of hinn,bind_of hlens]
 have e4:(c.x++c.y).getD 256 0=c.x.getD 256 0:=by
  rw [List.getD_eq_getElem?_getD,List.getD_eq_getElem?_getD,List.getElem?_append_left (by have:=h.x1;omega)]
 have e5:p+c.bits.length=p+5+5+4+3*c.vs.length+((c.rs.map (rbits c.z)).flatten).length:=by
  unfold Plan.bits
  rw [List.length_append,List.length_append,List.length_append,List.length_append,nb_length,nb_length,nb_length,tbits3_length]
  omega
 rw [if_neg (by rw [e4];exact h.e256),List.take_left,List.drop_left,okE_of _ h.cx,okE_of _ h.cy,e5]
 rfl
def head (last kind:Nat):List Bool:=nb last 1++nb kind 2
theorem head_reads {I:In} {p last kind:Nat} {L:List Bool} (h1:last<2) (h2:kind<4) (h:Lies I p (head last kind++L)):get 1 I p=.ok last (p+1)∧get 2 I (p+1)=.ok kind (p+3)∧Lies I (p+3) L:=by
 have l1:=h.left
 unfold head at l1
 have r1:=l1.right
 rw [nb_length] at r1
 have r2:=h.right
 rw [show (head last kind).length=3 from by unfold head;rw [List.length_append,nb_length,nb_length]] at r2
 exact ⟨get_nb l1.left (by omega),get_nb r1 (by omega),r2⟩
theorem block_fixed {zs:List Nat} {most last p F:Nat} {out:List Nat} {ts:List T} (hl:last<2) (hF:ts.length<F) (hok:Toks fixedL fixedD out ts) (hroom:(exts out ts).length≤most) (h:Lies (Infl.bitsOf zs) p (head last 1++(tbits fixedL fixedD ts++wb fixedL 256))) :
  Infl.block gg ce most F out (Infl.bitsOf zs) p=.ok (last,exts out ts) (p+(head last 1++(tbits fixedL fixedD ts++wb fixedL 256)).length):=by
 obtain ⟨h1,h2,h3⟩:=head_reads hl (by decide) h
 have ht:=toks_bits fixedL_good fixedD_good (most:=most) (by decide +kernel) ts out (p+3) F hF hok hroom h3
 rw [block_is h1 h2 (x:=1) (show byKind 1 most F out (Infl.bitsOf zs) (p+3)=_ from ht),List.length_append (bs:=tbits fixedL fixedD ts++wb fixedL 256)]
 rw [show (head last 1).length=3 from by unfold head;rw [List.length_append,nb_length,nb_length],Nat.add_assoc]
theorem block_told {zs:List Nat} {most last p F:Nat} {out:List Nat} {ts:List T} {c:Plan} (hc:c.ok) (gx:Good c.x) (gy:Good c.y) (hl:last<2) (hF:ts.length<F) (hok:Toks c.x c.y out ts) (hroom:(exts out ts).length≤most) (h:Lies (Infl.bitsOf zs) p (head last 2++(c.bits++(tbits c.x c.y ts++wb c.x 256)))) :
  Infl.block gg ce most F out (Infl.bitsOf zs) p=.ok (last,exts out ts) (p+(head last 2++(c.bits++(tbits c.x c.y ts++wb c.x 256))).length):=by
 obtain ⟨h1,h2,h3⟩:=head_reads hl (by decide) h
 have hcod:=cod_bits hc h3.left
 have h256:256<c.x.length∧0<Canon.ln c.x 256:=⟨by have:=hc.x1;omega,by have:=hc.e256;unfold Canon.ln;omega⟩
 have ht:=toks_bits gx gy (most:=most) h256 ts out _ F hF hok hroom h3.right
 have hk:byKind 2 most F out (Infl.bitsOf zs) (p+3)=.ok (exts out ts) (p+3+c.bits.length+(tbits c.x c.y ts++wb c.x 256).length):=by
  show told gg ce most F out (Infl.bitsOf zs) (p+3)=_
  rw [told_cod,bind_of hcod]
  exact ht
 rw [block_is h1 h2 (x:=2) hk]
 have e1:(head last 2++(c.bits++(tbits c.x c.y ts++wb c.x 256))).length=3+(c.bits.length+(tbits c.x c.y ts++wb c.x 256).length):=by
  rw [List.length_append,List.length_append]
  rw [show (head last 2).length=3 from by unfold head;rw [List.length_append,nb_length,nb_length]]
 rw [e1]
 congr 1
 omega
end Defl
end Go.Proofs.YtabeanealkopbaaGreat
end
namespace Go.Proofs.YtabeanealkopbaaGreat
namespace Defl
open Infl
def limOf (w:Nat→Nat) (order:List Nat) (M i:Nat):Nat:=if order.length≤1 then (if order=[i] then 1 else 0) else Merge.out w order M i
def limL (w:Nat→Nat) (order:List Nat) (M n:Nat):List Nat:=(List.range n).map (limOf w order M)
structure LimOk (w:Nat→Nat) (M n:Nat) (ls:List Nat):Prop where
 len:ls.length=n
 le:∀ l∈ls,l≤M
 pos:∀ i,i<n→0<w i→0<Canon.ln ls i
 zero:∀ i,i<n→w i=0→Canon.ln ls i=0
 loose:okSum ls true
 full:(∃ i j,i<n∧j<n∧i≠j∧0<w i∧0<w j)→okSum ls false
 good:Good ls
theorem sum_map (C:Nat→Nat):∀ n,(∀ i,i<n→C i≤20)→Canon.sum ((List.range n).map C)=Merge.lsum (fun i=>if 0<C i then 2 ^ (20 - C i) else 0) (List.range n)
 | 0,_=>Canon.sum_nil
 | n+1,h=>by
  rw [List.range_succ,List.map_append,List.map_singleton,Canon.sum_snoc _ _ (h n (by omega)),sum_map C n (fun i hi=>h i (by omega))]
  unfold Merge.lsum
  rw [List.map_append,List.sum_append]
  simp
theorem lsum_filter (f:Nat→Nat) (p:Nat→Bool) (L:List Nat) (h:∀ i∈L,p i=false→f i=0):Merge.lsum f L=Merge.lsum f (L.filter p):=by
 induction L with
 | nil=>rfl
 | cons x r ih =>
  rw [Merge.lsum_cons,ih (fun i hi=>h i (by simp [hi])),List.filter_cons]
  by_cases hp:p x=true
  ·rw [if_pos hp,Merge.lsum_cons]
  ·have hp':p x=false:=by simpa using hp
   rw [if_neg hp,h x (by simp) hp',Nat.zero_add]
theorem lsum_perm {f:Nat→Nat} {L L':List Nat} (h:L.Perm L'):Merge.lsum f L=Merge.lsum f L':=(h.map f).sum_nat
section
variable {w:Nat→Nat} {order:List Nat} {M n:Nat}
theorem out_zero (hM:1≤M) (hn:order.length≤2 ^ M) {i:Nat} (hi:i∉order):Merge.out w order M i=0:=by
 obtain ⟨c,_,_,_,c4⟩:=Merge.out_counts (w:=w) hM hn
 exact List.count_eq_zero.2 (fun h=>hi (c4 i h))
theorem words_zero {ls:List Nat} (h:∀ l∈ls,l=0):words ls=0:=by
 unfold words
 rw [List.filter_eq_nil_iff.2 (fun l hl=>by simp [h l hl])]
 rfl
theorem count_range (C:Nat→Nat) (k v:Nat):∀ n,(∀ i,i<n→(C i=v↔i=k))→k<n→((List.range n).map C).count v=1
 | 0,_,h=>by omega
 | n+1,h,hk=>by
  rw [List.range_succ,List.map_append,List.count_append,List.map_singleton]
  by_cases e:k=n
  ·subst e
   have h0:((List.range k).map C).count v=0:=List.count_eq_zero.2 (fun hm=>by
    rw [List.mem_map] at hm
    obtain ⟨i,hi,hv⟩:=hm
    rw [List.mem_range] at hi
    have:=(h i (by omega)).1 hv
    omega)
   rw [h0,(h k (by omega)).2 rfl]
   simp
  ·rw [count_range C k v n (fun i hi=>h i (by omega)) (by omega)]
   have:C n≠v:=fun c=>e ((h n (by omega)).1 c).symm
   simp [this]
theorem two_mem {l:List Nat} {i j:Nat} (hi:i∈l) (hj:j∈l) (h:i≠j):2≤l.length:=by
 cases l with
 | nil=>simp at hi
 | cons a r =>
  cases r with
  | nil=>simp at hi hj;omega
  | cons b r=>simp
theorem lim_ok (hs:Merge.Sorted (Merge.baseOf w order)) (hd:order.Nodup) (hmem:∀ i,i∈order↔i<n∧0<w i) (hM:1≤M) (hM2:M≤20) (hn:order.length≤2 ^ M):LimOk w M n (limL w order M n):=by
 have hln:∀ i,i<n→Canon.ln (limL w order M n) i=limOf w order M i:=fun i hi=>by
  unfold Canon.ln limL
  rw [List.getD_eq_getElem?_getD,List.getElem?_map,List.getElem?_range hi]
  rfl
 have hle:∀ i,limOf w order M i≤M:=fun i=>by
  unfold limOf
  split
  ·split <;> omega
  ·exact Merge.out_le hd hM hn i
 have hpos:∀ i,i<n→0<w i→0<limOf w order M i:=fun i hi hw=>by
  have hin:=(hmem i).2 ⟨hi,hw⟩
  unfold limOf
  by_cases h1:order.length≤1
  ·rw [if_pos h1]
   have e:order=[i]:=by
    match order,h1,hin with
    | [],_,h=>simp at h
    | [a],_,h=>simp at h;rw [h]
    | a :: b :: r,h,_=>simp at h
   rw [if_pos e];decide
  ·rw [if_neg h1]
   exact Merge.out_pos hd hM hn (by omega) hin
 have hzero:∀ i,i<n→w i=0→limOf w order M i=0:=fun i hi hw=>by
  have hin:i∉order:=fun h=>by have:=((hmem i).1 h).2;omega
  unfold limOf
  by_cases h1:order.length≤1
  ·rw [if_pos h1,if_neg (fun e=>hin (by rw [e];simp))]
  ·rw [if_neg h1]
   exact out_zero hM hn hin
 have hlel:∀ l∈limL w order M n,l≤M:=fun l hl=>by
  unfold limL at hl
  rw [List.mem_map] at hl
  obtain ⟨i,_,rfl⟩:=hl
  exact hle i
 have hfull:2≤order.length→Canon.sum (limL w order M n)=1048576:=fun h2=>by
  unfold limL
  rw [sum_map _ n (fun i _=>Nat.le_trans (hle i) hM2),lsum_filter _ (fun i=>decide (0<w i)) _ (fun i hi hp=>by
   rw [List.mem_range] at hi
   have hw:w i=0:=by simpa using hp
   show (if 0<limOf w order M i then _ else 0)=0
   rw [hzero i hi hw,if_neg (by omega)])]
  have hperm:((List.range n).filter (fun i=>decide (0<w i))).Perm order:=(List.perm_ext_iff_of_nodup (List.Pairwise.filter _ List.nodup_range) hd).2 fun i=>by
   rw [hmem i,List.mem_filter,List.mem_range];simp
  rw [lsum_perm hperm]
  have e1:Merge.lsum (fun i=>if 0<limOf w order M i then 2 ^ (20 - limOf w order M i) else 0) order=Merge.lsum (fun i=>2 ^ (M+(20 - M) - Merge.out w order M i)) order:=Merge.lsum_congr fun i hi=>by
   have hb:=(hmem i).1 hi
   rw [if_pos (hpos i hb.1 hb.2),show M+(20 - M)=20 from by omega]
   unfold limOf
   rw [if_neg (by omega)]
  rw [e1,Merge.kraft_more (fun i _=>Merge.out_le hd hM hn i),Merge.out_full hs hd (fun i hi=>((hmem i).1 hi).2) hM hn h2,← Nat.pow_add,show M+(20 - M)=20 from by omega]
 have hloose:okSum (limL w order M n) true:=by
  by_cases h2:2≤order.length
  ·exact .inl (hfull h2)
  ·refine .inr ⟨rfl,?_⟩
   by_cases h0:order.length=0
   ·refine .inl (words_zero fun l hl=>?_)
    unfold limL at hl
    rw [List.mem_map] at hl
    obtain ⟨i,_,rfl⟩:=hl
    have e:order=[]:=List.eq_nil_of_length_eq_zero h0
    unfold limOf
    rw [if_pos (by omega),if_neg (by rw [e];simp)]
   ·obtain ⟨k,hk⟩:∃ k,order=[k]:=by
     match order,h0,h2 with
     | [],h,_=>simp at h
     | [a],_,_=>exact ⟨a,rfl⟩
     | a :: b :: r,_,h=>simp at h
    have hkn:=(hmem k).1 (by rw [hk];simp)
    have hC:∀ i,limOf w order M i=if i=k then 1 else 0:=fun i=>by
     unfold limOf
     rw [if_pos (by omega),hk]
     by_cases e:i=k
     ·rw [if_pos e,if_pos (by rw [e])]
     ·rw [if_neg e,if_neg (by intro c;injection c with c;exact e c.symm)]
    have hc1:(limL w order M n).count 1=1:=count_range _ k 1 n (fun i hi=>by
     rw [hC i]
     by_cases e:i=k
     ·simp [e]
     ·simp [e]) hkn.1
    refine .inr ⟨?_,hc1⟩
    unfold words
    rw [← hc1,List.count_eq_length_filter]
    congr 1
    refine List.filter_congr fun l hl=>?_
    unfold limL at hl
    rw [List.mem_map] at hl
    obtain ⟨i,_,rfl⟩:=hl
    rw [hC i]
    by_cases e:i=k
    ·simp [e]
    ·simp [e]
 refine ⟨by simp [limL],hlel,fun i hi hw=>by rw [hln i hi];exact hpos i hi hw,fun i hi hw=>by rw [hln i hi];exact hzero i hi hw,hloose,?_,⟨fun l hl=>Nat.le_trans (hlel l hl) hM2,okSum.le (fun l hl=>Nat.le_trans (hlel l hl) hM2) hloose⟩⟩
 rintro ⟨i,j,hi,hj,hne,wi,wj⟩
 refine .inl (hfull ?_)
 have h1:=(hmem i).2 ⟨hi,wi⟩
 have h2:=(hmem j).2 ⟨hj,wj⟩
 exact two_mem h1 h2 hne
end
end Defl
namespace Defl
def cntRun (v:Int):List Int→Nat
 | []=>0
 | x :: r=>if x=v then 1+cntRun v r else 0
theorem cntRun_le (v:Int):∀ l:List Int,cntRun v l≤l.length
 | []=>Nat.le_refl _
 | x :: r=>by
  have:=cntRun_le v r
  unfold cntRun
  split
  ·simp;omega
  ·simp
theorem cntRun_take (v:Int):∀ (l:List Int) (n:Nat),n≤cntRun v l→l.take n=List.replicate n v
 | l,0,_=>by simp
 | [],n+1,h=>by simp [cntRun] at h
 | x :: r,n+1,h=>by
  unfold cntRun at h
  by_cases e:x=v
  ·rw [if_pos e] at h
   rw [List.take_succ_cons,List.replicate_succ,cntRun_take v r n (by omega),e]
  ·rw [if_neg e] at h
   omega
def stepR (l:List Int) (a:Nat):Int × Nat × Nat :=
 if l.getD a 0=0∧11≤cntRun (l.getD a 0) (l.drop a) then (18,min (cntRun (l.getD a 0) (l.drop a)) 138 - 11,min (cntRun (l.getD a 0) (l.drop a)) 138)
 else if l.getD a 0=0∧3≤cntRun (l.getD a 0) (l.drop a) then (17,cntRun (l.getD a 0) (l.drop a) - 3,cntRun (l.getD a 0) (l.drop a))
 else if 0<l.getD a 0∧0<a∧l.getD (a - 1) 0=l.getD a 0∧3≤cntRun (l.getD a 0) (l.drop a) then (16,min (cntRun (l.getD a 0) (l.drop a)) 6 - 3,min (cntRun (l.getD a 0) (l.drop a)) 6)
 else (l.getD a 0,0,1)
def runsF (l:List Int):Nat→Nat→List (Int × Nat)
 | 0,_=>[]
 | k+1,a=>if a<l.length then ((stepR l a).1,(stepR l a).2.1) :: runsF l k (a+(stepR l a).2.2) else []
def runsL (l:List Int):List (Int × Nat):=runsF l l.length 0
def nn (r:Int × Nat):Nat × Nat:=(r.1.toNat,r.2)
theorem cnt_pos (l:List Int) (a:Nat) (h:a<l.length):1≤cntRun (l.getD a 0) (l.drop a):=by
 rw [List.getD_eq_getElem?_getD,List.getElem?_eq_getElem h,List.drop_eq_getElem_cons h]
 unfold cntRun
 rw [if_pos (by simp)]
 omega
theorem stepR_n (l:List Int) (a:Nat) (h:a<l.length):1≤(stepR l a).2.2∧(stepR l a).2.2≤cntRun (l.getD a 0) (l.drop a):=by
 have h1:=cnt_pos l a h
 unfold stepR
 split
 ·exact ⟨by simp only;omega,by simp only;omega⟩
 ·split
  ·exact ⟨by simp only;omega,by simp only;omega⟩
  ·split
   ·exact ⟨by simp only;omega,by simp only;omega⟩
   ·exact ⟨by simp only;omega,by simp only;omega⟩
theorem take_step (l:List Int) (a n:Nat) (h:n≤cntRun (l.getD a 0) (l.drop a)):l.take (a+n)=l.take a++List.replicate n (l.getD a 0):=by
 rw [List.take_add,cntRun_take _ _ n h]
def trim (n:Nat):Nat→List Nat→List Nat
 | 0,l=>l
 | k+1,l=>if n<l.length∧l.getD (l.length - 1) 0=0 then trim n k (l.take (l.length - 1)) else l
theorem trim_is (n:Nat):∀ (k:Nat) (l:List Nat),n≤l.length→n≤(trim n k l).length∧(trim n k l).length≤l.length∧∀ i,(trim n k l).getD i 0=l.getD i 0
 | 0,l,h=>⟨h,Nat.le_refl _,fun _=>rfl⟩
 | k+1,l,h=>by
  unfold trim
  by_cases c:n<l.length∧l.getD (l.length - 1) 0=0
  ·rw [if_pos c]
   have hl:(l.take (l.length - 1)).length=l.length - 1:=by rw [List.length_take];omega
   obtain ⟨i1,i2,i3⟩:=trim_is n k (l.take (l.length - 1)) (by omega)
   refine ⟨i1,by omega,fun i=>?_⟩
   rw [i3 i,List.getD_eq_getElem?_getD,List.getElem?_take]
   by_cases e:i<l.length - 1
   ·rw [if_pos e,List.getD_eq_getElem?_getD]
   ·rw [if_neg e]
    by_cases e2:i=l.length - 1
    ·rw [e2,c.2];rfl
    ·rw [List.getD_eq_getElem?_getD,List.getElem?_eq_none (by omega)]
  ·rw [if_neg c]
   exact ⟨h,Nat.le_refl _,fun _=>rfl⟩
theorem trim_mem (n:Nat):∀ (k:Nat) (l:List Nat) (x:Nat),x∈trim n k l→x∈l
 | 0,l,x,h=>h
 | k+1,l,x,h=>by
  unfold trim at h
  split at h
  ·exact List.mem_of_mem_take (trim_mem n k _ x h)
  ·exact h
end Defl
namespace Defl
open Infl
theorem stepR_ok (ls:List Nat) (a:Nat) (h:a<ls.length) (h15:∀ x∈ls,x≤15) :
  stepOk (ls.take a) (stepR (ls.map fun x:Nat=>(x:Int)) a).1.toNat (stepR (ls.map fun x:Nat=>(x:Int)) a).2.1 (ls.getD a 0) (stepR (ls.map fun x:Nat=>(x:Int)) a).2.2:=by
 have hv:(ls.map fun x:Nat=>(x:Int)).getD a 0=((ls.getD a 0:Nat):Int):=by
  rw [List.getD_eq_getElem?_getD,List.getElem?_map,List.getD_eq_getElem?_getD,List.getElem?_eq_getElem h]
  rfl
 have hx:ls.getD a 0≤15:=h15 _ (by rw [List.getD_eq_getElem?_getD,List.getElem?_eq_getElem h];exact List.getElem_mem _)
 unfold stepR
 rw [hv]
 generalize cntRun ((ls.getD a 0:Nat):Int) ((ls.map fun x:Nat=>(x:Int)).drop a)=n
 by_cases c1:((ls.getD a 0:Nat):Int)=0∧11≤n
 ·rw [if_pos c1]
  exact .inr (.inr (.inr ⟨rfl,by simp only;omega,by omega,by simp only;omega⟩))
 ·rw [if_neg c1]
  by_cases c2:((ls.getD a 0:Nat):Int)=0∧3≤n
  ·rw [if_pos c2]
   exact .inr (.inr (.inl ⟨rfl,by simp only;omega,by omega,by simp only;omega⟩))
  ·rw [if_neg c2]
   by_cases c3:0<((ls.getD a 0:Nat):Int)∧0<a∧(ls.map fun x:Nat=>(x:Int)).getD (a - 1) 0=((ls.getD a 0:Nat):Int)∧3≤n
   ·rw [if_pos c3]
    have hl:(ls.take a).length=a:=by rw [List.length_take];omega
    have hp:(ls.map fun x:Nat=>(x:Int)).getD (a - 1) 0=((ls.getD (a - 1) 0:Nat):Int):=by
     rw [List.getD_eq_getElem?_getD,List.getElem?_map,List.getD_eq_getElem?_getD,List.getElem?_eq_getElem (show a - 1<ls.length by omega)]
     rfl
    have e1:ls.getD (a - 1) 0=ls.getD a 0:=by have:=c3.2.2.1;rw [hp] at this;omega
    refine .inr (.inl ⟨rfl,by simp only;omega,fun e=>?_,?_,by simp only;omega⟩)
    ·rw [e] at hl;simp at hl;omega
    ·rw [hl,List.getD_eq_getElem?_getD (l:=ls.take a),List.getElem?_take,if_pos (by omega),← e1,List.getD_eq_getElem?_getD]
   ·rw [if_neg c3]
    exact .inl ⟨by simp only;omega,rfl,by simp only;omega,rfl⟩
theorem runs_to (ls:List Nat) (h15:∀ x∈ls,x≤15):∀ (k a:Nat),ls.length≤a+k→a≤ls.length→RunsTo (ls.take a) ((runsF (ls.map fun x:Nat=>(x:Int)) k a).map nn) ls
 | 0,a,h,ha=>by
  show ls.take a=ls
  exact List.take_of_length_le (by omega)
 | k+1,a,h,ha=>by
  unfold runsF
  by_cases hlt:a<ls.length
  ·rw [if_pos (by rw [List.length_map];exact hlt),List.map_cons]
   have hn:=stepR_n (ls.map fun x:Nat=>(x:Int)) a (by rw [List.length_map];exact hlt)
   have hle:a+(stepR (ls.map fun x:Nat=>(x:Int)) a).2.2≤ls.length:=by
    have:=cntRun_le ((ls.map fun x:Nat=>(x:Int)).getD a 0) ((ls.map fun x:Nat=>(x:Int)).drop a)
    rw [List.length_drop,List.length_map] at this
    omega
   refine ⟨ls.getD a 0,(stepR (ls.map fun x:Nat=>(x:Int)) a).2.2,stepR_ok ls a hlt h15,?_⟩
   have ht:=take_step (ls.map fun x:Nat=>(x:Int)) a _ hn.2
   have ht2:ls.take (a+(stepR (ls.map fun x:Nat=>(x:Int)) a).2.2)=ls.take a++List.replicate (stepR (ls.map fun x:Nat=>(x:Int)) a).2.2 (ls.getD a 0):=by
    have hinj:∀ {x y:List Nat},(x.map fun x:Nat=>(x:Int))=(y.map fun x:Nat=>(x:Int))→x=y:=fun {x y} e=>(List.map_inj_right (fun a b hab=>by have h:(a:Int)=(b:Int):=hab;omega)).1 e
    refine hinj ?_
    rw [List.map_append,List.map_replicate,List.map_take,List.map_take,ht]
    congr 2
    rw [List.getD_eq_getElem?_getD,List.getElem?_map,List.getD_eq_getElem?_getD,List.getElem?_eq_getElem hlt]
    rfl
   rw [← ht2]
   exact runs_to ls h15 k _ (by omega) hle
  ·rw [if_neg (by rw [List.length_map];exact hlt)]
   show ls.take a=ls
   exact List.take_of_length_le (by omega)
theorem runsL_to (ls:List Nat) (h15:∀ x∈ls,x≤15):RunsTo [] ((runsL (ls.map fun x:Nat=>(x:Int))).map nn) ls:=by
 have:=runs_to ls h15 (ls.map fun x:Nat=>(x:Int)).length 0 (by rw [List.length_map];omega) (Nat.zero_le _)
 rw [List.take_zero] at this
 exact this
end Defl
namespace Defl
open Infl
theorem snoc_of {l:List Nat} (h:0<l.length) (h0:l.getD (l.length - 1) 0=0):l=l.take (l.length - 1)++[0]:=by
 have e:l.take (l.length - 1+1)=l.take (l.length - 1)++[l.getD (l.length - 1) 0]:=by
  rw [List.take_add_one,List.getD_eq_getElem?_getD,List.getElem?_eq_getElem (by omega)]
  rfl
 rw [h0,List.take_of_length_le (by omega)] at e
 exact e
theorem okSum_snoc (l:List Nat) (loose:Bool):okSum (l++[0]) loose↔okSum l loose:=by
 unfold okSum
 rw [Canon.sum_snoc l 0 (by decide),if_neg (by decide),Nat.add_zero]
 have h1:words (l++[0])=words l:=by
  unfold words
  rw [List.filter_append]
  simp
 have h2:(l++[0]).count 1=l.count 1:=by rw [List.count_append];simp
 rw [h1,h2]
theorem good_snoc {l:List Nat} (h:Good (l++[0])):Good l:=by
 refine ⟨fun x hx=>h.small x (by simp [hx]),?_⟩
 have:=h.sum
 rw [Canon.sum_snoc l 0 (by decide),if_neg (by decide),Nat.add_zero] at this
 exact this
theorem trim_sum (n:Nat):∀ (k:Nat) (l:List Nat) (loose:Bool),(okSum l loose→okSum (trim n k l) loose)∧(Good l→Good (trim n k l))
 | 0,l,loose=>⟨id,id⟩
 | k+1,l,loose=>by
  unfold trim
  by_cases c:n<l.length∧l.getD (l.length - 1) 0=0
  ·rw [if_pos c]
   have e:=snoc_of (by omega) c.2
   obtain ⟨h1,h2⟩:=trim_sum n k (l.take (l.length - 1)) loose
   refine ⟨fun h=>h1 ?_,fun h=>h2 ?_⟩
   ·rw [e] at h;exact (okSum_snoc _ _).1 h
   ·rw [e] at h;exact good_snoc h
  ·rw [if_neg c]
   exact ⟨id,id⟩
theorem ce_of {ls:List Nat} {M:Nat} {loose:Bool} (h:okSum ls loose):ce ls M loose=0:=by
 rcases ce_cases ls M loose with ⟨h',_⟩ | ⟨_,h'⟩
 ·exact h'
 ·exact absurd h h'
theorem runs_all {s:Nat} {tgt:List Nat}:∀ (rs:List (Nat × Nat)) (all:List Nat),RunsTo all rs tgt→(∀ r∈rs,r.1=s)→(s≤15→∀ i,all.length≤i→i<tgt.length→tgt.getD i 0=s)∧(s=17∨s=18→∀ i,all.length≤i→i<tgt.length→tgt.getD i 0=0)∧∀ i,i<all.length→tgt.getD i 0=all.getD i 0
 | [],all,h,_=>by
  have e:all=tgt:=h
  subst e
  exact ⟨fun _ i h1 h2=>by omega,fun _ i h1 h2=>by omega,fun _ _=>rfl⟩
 | r :: rs,all,h,hs=>by
  obtain ⟨v,n,h1,h2⟩:=h
  have hr:=hs r (by simp)
  obtain ⟨i1,i2,i3⟩:=runs_all rs (all++List.replicate n v) h2 (fun x hx=>hs x (by simp [hx]))
  rw [List.length_append,List.length_replicate] at i1 i2 i3
  have hnew:∀ i,all.length≤i→i<all.length+n→tgt.getD i 0=v:=fun i a b=>by
   rw [i3 i b,List.getD_eq_getElem?_getD,List.getElem?_append_right a,List.getElem?_replicate,if_pos (by omega)]
   rfl
  refine ⟨fun h15 i a b=>?_,fun h17 i a b=>?_,fun i a=>?_⟩
  ·by_cases c:i<all.length+n
   ·rw [hnew i a c]
    rcases h1 with ⟨_,_,e,_⟩ | ⟨e,_⟩ | ⟨e,_⟩ | ⟨e,_⟩ <;> omega
   ·exact i1 h15 i (by omega) b
  ·by_cases c:i<all.length+n
   ·rw [hnew i a c]
    rcases h1 with ⟨_,_,e,_⟩ | ⟨e,_⟩ | ⟨_,_,e,_⟩ | ⟨_,_,e,_⟩ <;> omega
   ·exact i2 h17 i (by omega) b
  ·rw [i3 i (by omega),List.getD_eq_getElem?_getD,List.getElem?_append_left a,List.getD_eq_getElem?_getD]
theorem cnt_all {l:List Int} {v:Int} (h:∀ i,i<l.length→l.getD i 0=v):cntRun v l=l.length:=by
 induction l with
 | nil=>rfl
 | cons x r ih =>
  have h0:x=v:=by have:=h 0 (by simp);simpa using this
  unfold cntRun
  rw [if_pos h0,ih (fun i hi=>by have:=h (i+1) (by simp;omega);simpa using this),List.length_cons]
  omega
theorem runs_two (ls:List Nat) (h15:∀ x∈ls,x≤15) (hlen:10≤ls.length) (j:Nat) (hj:j<ls.length) (hne:ls.getD j 0≠0) :
  ∃ r∈(runsL (ls.map fun x:Nat=>(x:Int))).map nn,∃ r'∈(runsL (ls.map fun x:Nat=>(x:Int))).map nn,r.1≠r'.1:=by
 have hto:=runsL_to ls h15
 obtain ⟨k,hk⟩:∃ k,ls.length=k+2:=⟨ls.length - 2,by omega⟩
 obtain ⟨rs,hrs⟩:∃ rs,rs=(runsL (ls.map fun x:Nat=>(x:Int))).map nn:=⟨_,rfl⟩
 rw [← hrs] at hto ⊢
 have hunf:rs=nn ((stepR (ls.map fun x:Nat=>(x:Int)) 0).1,(stepR (ls.map fun x:Nat=>(x:Int)) 0).2.1) :: (runsF (ls.map fun x:Nat=>(x:Int)) (k+1) (0+(stepR (ls.map fun x:Nat=>(x:Int)) 0).2.2)).map nn:=by
  rw [hrs]
  unfold runsL
  rw [List.length_map,hk,runsF,if_pos (by rw [List.length_map];omega),List.map_cons]
 refine Classical.byContradiction fun hcon=>?_
 obtain ⟨s,hs⟩:∃ s,s=(stepR (ls.map fun x:Nat=>(x:Int)) 0).1.toNat:=⟨_,rfl⟩
 have hall:∀ r∈rs,r.1=s:=fun r hr=>Classical.byContradiction fun hn=>hcon ⟨r,hr,nn ((stepR (ls.map fun x:Nat=>(x:Int)) 0).1,(stepR (ls.map fun x:Nat=>(x:Int)) 0).2.1),by rw [hunf];simp,by rw [hs] at hn;exact hn⟩
 obtain ⟨a1,a2,_⟩:=runs_all rs [] hto hall
 have hst:=stepR_ok ls 0 (by omega) h15
 rw [← hs,List.take_zero] at hst
 by_cases h17:s=17∨s=18
 ·exact hne (a2 h17 j (Nat.zero_le _) hj)
 ·have hs15:s≤15:=by
   rcases hst with ⟨e,_⟩ | ⟨_,_,e,_⟩ | ⟨e,_⟩ | ⟨e,_⟩
   ·exact e
   ·exact absurd rfl e
   ·exact absurd (.inl e) h17
   ·exact absurd (.inr e) h17
  have hval:=a1 hs15
  have hs0:s≠0:=fun e=>hne (by rw [hval j (Nat.zero_le _) hj,e])
  have hn1:(stepR (ls.map fun x:Nat=>(x:Int)) 0).2.2=1:=by
   rcases hst with ⟨_,_,_,e⟩ | ⟨e,_⟩ | ⟨e,_⟩ | ⟨e,_⟩
   ·exact e
   ·omega
   ·omega
   ·omega
  have hI:∀ i,i<ls.length→(ls.map fun x:Nat=>(x:Int)).getD i 0=(s:Int):=fun i hi=>by
   rw [List.getD_eq_getElem?_getD,List.getElem?_map,List.getElem?_eq_getElem hi]
   have:=hval i (Nat.zero_le _) hi
   rw [List.getD_eq_getElem?_getD,List.getElem?_eq_getElem hi] at this
   show ((ls[i]:Nat):Int)=(s:Int)
   have e:ls[i]=s:=this
   rw [e]
  have hcnt:cntRun (s:Int) ((ls.map fun x:Nat=>(x:Int)).drop 1)=ls.length - 1:=by
   rw [cnt_all,List.length_drop,List.length_map]
   intro i hi
   rw [List.length_drop,List.length_map] at hi
   have:=hI (1+i) (by omega)
   rw [List.getD_eq_getElem?_getD] at this ⊢
   rw [List.getElem?_drop]
   exact this
  have hstep1:(stepR (ls.map fun x:Nat=>(x:Int)) 1).1=16:=by
   unfold stepR
   rw [hI 1 (by omega),hcnt,if_neg (by omega),if_neg (by omega),if_pos ⟨by omega,by omega,by rw [hI 0 (by omega)],by omega⟩]
  have hmem:nn ((stepR (ls.map fun x:Nat=>(x:Int)) 1).1,(stepR (ls.map fun x:Nat=>(x:Int)) 1).2.1)∈rs:=by
   rw [hunf,hn1]
   refine List.mem_cons_of_mem _ ?_
   rw [runsF,if_pos (by rw [List.length_map];omega),List.map_cons]
   simp
  have:=hall _ hmem
  unfold nn at this
  rw [hstep1] at this
  have h16:s=16:=by rw [← this];rfl
  omega
def planOf (x0 y0 z:List Nat):Plan :=
 { x:=trim 257 286 x0,y:=trim 1 30 y0,z:=z,vs:=trim 4 19 (order.map fun j=>z.getD j 0),rs:=(runsL (((trim 257 286 x0)++(trim 1 30 y0)).map fun x:Nat=>(x:Int))).map nn }
def oftenOf (x0 y0:List Nat) (s:Nat):Nat:=(((runsL (((trim 257 286 x0)++(trim 1 30 y0)).map fun x:Nat=>(x:Int))).map nn).map Prod.fst).count s
theorem trim_ln {n k:Nat} {l:List Nat} (h:n≤l.length) (i:Nat):Canon.ln (trim n k l) i=Canon.ln l i:=(trim_is n k l h).2.2 i
theorem ln_lt {l:List Nat} {i:Nat} (h:0<Canon.ln l i):i<l.length:=by
 unfold Canon.ln at h
 rcases Nat.lt_or_ge i l.length with h' | h'
 ·exact h'
 ·rw [List.getD_eq_getElem?_getD,List.getElem?_eq_none h'] at h;simp at h
theorem runs_sym (ls:List Nat) (h15:∀ x∈ls,x≤15):∀ r∈(runsL (ls.map fun x:Nat=>(x:Int))).map nn,r.1<19:=by
 have key:∀ (rs:List (Nat × Nat)) (all tgt:List Nat),RunsTo all rs tgt→∀ r∈rs,r.1<19:=by
  intro rs
  induction rs with
  | nil=>intro all tgt _ r hr;simp at hr
  | cons a rs ih =>
   intro all tgt h r hr
   obtain ⟨v,n,h1,h2⟩:=h
   rw [List.mem_cons] at hr
   rcases hr with rfl | hr
   ·exact h1.pos.2
   ·exact ih _ _ h2 r hr
 exact key _ _ _ (runsL_to ls h15)
theorem order_get:∀ j,j<19→order.getD (order.idxOf j) 0=j∧order.idxOf j<19:=by decide
theorem plan_ok {a b:Nat→Nat} {x0 y0 z:List Nat} (hx:LimOk a 15 286 x0) (hy:LimOk b 15 30 y0) (h256:0<a 256) (hz:LimOk (oftenOf x0 y0) 7 19 z) :
  (planOf x0 y0 z).ok∧Good (planOf x0 y0 z).x∧Good (planOf x0 y0 z).y∧(∀ i,i<286→0<a i→i<(planOf x0 y0 z).x.length∧0<Canon.ln (planOf x0 y0 z).x i)∧(∀ i,i<30→0<b i→i<(planOf x0 y0 z).y.length∧0<Canon.ln (planOf x0 y0 z).y i):=by
 obtain ⟨tx1,tx2,tx3⟩:=trim_is 257 286 x0 (by rw [hx.len];decide)
 obtain ⟨ty1,ty2,ty3⟩:=trim_is 1 30 y0 (by rw [hy.len];decide)
 rw [hx.len] at tx2
 rw [hy.len] at ty2
 have hxs:=trim_sum 257 286 x0 true
 have hys:=trim_sum 1 30 y0 true
 have h15:∀ v∈trim 257 286 x0++trim 1 30 y0,v≤15:=fun v hv=>by
  rw [List.mem_append] at hv
  rcases hv with hv | hv
  ·exact hx.le v (trim_mem _ _ _ v hv)
  ·exact hy.le v (trim_mem _ _ _ v hv)
 have hl256:0<Canon.ln (trim 257 286 x0) 256:=by
  rw [trim_ln (by rw [hx.len];decide)]
  exact hx.pos 256 (by decide) h256
 have hcnt:∀ r∈(runsL ((trim 257 286 x0++trim 1 30 y0).map fun x:Nat=>(x:Int))).map nn,0<oftenOf x0 y0 r.1:=fun r hr=>by
  unfold oftenOf
  exact List.count_pos_iff.2 (List.mem_map_of_mem hr)
 have hsym:=runs_sym _ h15
 have hol:(order.map fun j=>z.getD j 0).length=19:=by rw [List.length_map];rfl
 obtain ⟨tv1,tv2,tv3⟩:=trim_is 4 19 (order.map fun j=>z.getD j 0) (by rw [hol];decide)
 rw [hol] at tv2
 refine ⟨⟨tx1,tx2,ty1,ty2,tv1,tv2,?_,?_,hz.good,?_,runsL_to _ h15,?_,?_,ce_of (hxs.1 hx.loose),ce_of (hys.1 hy.loose)⟩,hxs.2 hx.good,hys.2 hy.good,fun i hi ha=>?_,fun i hi hb=>?_⟩
 ·intro v hv
  have:=trim_mem _ _ _ v hv
  rw [List.mem_map] at this
  obtain ⟨j,_,rfl⟩:=this
  rw [List.getD_eq_getElem?_getD]
  cases hg:z[j]? with
  | none=>simp
  | some w=>have:=hz.le w (List.mem_of_getElem? hg);simp;omega
 ·show ownOf (trim 4 19 (order.map fun j=>z.getD j 0))=z
  refine list_eq (by rw [ownOf_length,hz.len]) fun i hi=>?_
  rw [ownOf_length] at hi
  unfold ownOf
  rw [List.getD_eq_getElem?_getD,List.getElem?_map,List.getElem?_range hi]
  show (trim 4 19 (order.map fun j=>z.getD j 0)).getD (order.idxOf i) 0=z.getD i 0
  rw [tv3]
  obtain ⟨o1,o2⟩:=order_get i hi
  rw [List.getD_eq_getElem?_getD,List.getElem?_map]
  have e:order[order.idxOf i]?=some i:=by
   rw [List.getD_eq_getElem?_getD] at o1
   rw [List.getElem?_eq_getElem (show order.idxOf i<order.length from o2)] at o1 ⊢
   simp
  rw [e]
  rfl
 ·refine ce_of (hz.full ?_)
  obtain ⟨r,hr,r',hr',hne⟩:=runs_two _ h15 (by rw [List.length_append];omega) 256 (by rw [List.length_append];omega) (by
   rw [List.getD_eq_getElem?_getD,List.getElem?_append_left (by omega)]
   have:=hl256
   unfold Canon.ln at this
   rw [List.getD_eq_getElem?_getD] at this
   omega)
  exact ⟨r.1,r'.1,hsym r hr,hsym r' hr',hne,hcnt r hr,hcnt r' hr'⟩
 ·intro r hr
  exact hz.pos r.1 (hsym r hr) (hcnt r hr)
 ·show (trim 257 286 x0).getD 256 0≠0
  have:=hl256
  unfold Canon.ln at this
  omega
 ·have h:=hx.pos i hi ha
  rw [← trim_ln (n:=257) (k:=286) (by rw [hx.len];decide)] at h
  exact ⟨ln_lt h,h⟩
 ·have h:=hy.pos i hi hb
  rw [← trim_ln (n:=1) (k:=30) (by rw [hy.len];decide)] at h
  exact ⟨ln_lt h,h⟩
end Defl
namespace Defl
open Infl
def Tellsc (out c:List Nat) (p last F0:Nat) (L:List Bool):Prop:=∀ (zs:List Nat) (most F:Nat),(out++c).length≤most→F0≤F→Lies (Infl.bitsOf zs) p L→Infl.block gg ce most F out (Infl.bitsOf zs) p=.ok (last,out++c) (p+L.length)
def symCount (ts:List T) (s:Nat):Nat:=(if s=256 then 1 else 0)+(ts.map fun t=>if t.n=0 then t.b else symL t.n).count s
def distCount (ts:List T) (s:Nat):Nat:=((ts.filter fun t=>decide (t.n≠0)).map fun t=>symD t.d).count s
def Oks:List Nat→List T→Prop
 | _,[]=>True
 | out,t :: ts=>t.ok out∧Oks (t.ext out) ts
theorem Oks.each:∀ {ts:List T} {out:List Nat},Oks out ts→∀ t∈ts,t.n=0∧t.b<256∨3≤t.n∧t.n≤258∧1≤t.d∧t.d≤32768
 | [],_,_,t,h=>by simp at h
 | a :: ts,out,h,t,ht=>by
  rw [List.mem_cons] at ht
  rcases ht with rfl | ht
  ·rcases h.1 with h | ⟨h1,h2,h3,h4,_⟩
   ·exact .inl h
   ·exact .inr ⟨h1,h2,h3,h4⟩
  ·exact h.2.each t ht
theorem toks_of {l1 l2:List Nat}:∀ {ts:List T} {out:List Nat},Oks out ts→(∀ t∈ts,t.has l1 l2)→Toks l1 l2 out ts
 | [],_,_,_=>trivial
 | a :: ts,out,h,hh=>⟨h.1,hh a (by simp),toks_of h.2 (fun t ht=>hh t (by simp [ht]))⟩
theorem fixed_has {t:T} (h:t.n=0∧t.b<256∨3≤t.n∧t.n≤258∧1≤t.d∧t.d≤32768):t.has fixedL fixedD:=by
 have hL:∀ s,s<288→s<fixedL.length∧0<Canon.ln fixedL s:=by
  intro s hs
  refine ⟨by rw [fixedL_len];exact hs,?_⟩
  unfold Canon.ln
  rw [fixedL_is,List.getD_eq_getElem?_getD,List.getElem?_map,List.getElem?_range hs]
  show 0<fx s
  unfold fx
  split
  ·decide
  ·split <;> decide
 have hD:∀ s,s<32→s<fixedD.length∧0<Canon.ln fixedD s:=by
  intro s hs
  refine ⟨by rw [fixedD_len];exact hs,?_⟩
  unfold Canon.ln fixedD
  rw [List.getD_eq_getElem?_getD,List.getElem?_replicate,if_pos hs]
  decide
 unfold T.has
 rcases h with ⟨h0,hb⟩ | ⟨h1,h2,h3,h4⟩
 ·rw [if_pos h0]
  exact hL _ (by omega)
 ·rw [if_neg (by omega)]
  have a:=symL_is t.n h1 h2
  have b:=symD_is t.d h3 h4
  exact ⟨hL _ (by omega),hD _ (by omega)⟩
theorem fixed_tells {out c:List Nat} {ts:List T} {p last:Nat} (hl:last<2) (hok:Oks out ts) (hx:exts out ts=out++c):Tellsc out c p last (ts.length+1) (head last 1++(tbits fixedL fixedD ts++wb fixedL 256)):=by
 intro zs most F hm hF h
 rw [← hx]
 exact block_fixed hl (by omega) (toks_of hok (fun t ht=>fixed_has (hok.each t ht))) (by rw [hx];exact hm) h
theorem told_has {ts:List T} {out:List Nat} (hok:Oks out ts) {x y:List Nat} (hx:∀ i,i<286→0<symCount ts i→i<x.length∧0<Canon.ln x i) (hy:∀ i,i<30→0<distCount ts i→i<y.length∧0<Canon.ln y i):∀ t∈ts,t.has x y:=by
 intro t ht
 have hm:∀ s,s=(if t.n=0 then t.b else symL t.n)→0<symCount ts s:=fun s hs=>by
  unfold symCount
  have:0<(ts.map fun t=>if t.n=0 then t.b else symL t.n).count s:=List.count_pos_iff.2 (by rw [hs];exact List.mem_map_of_mem (f:=fun t:T=>if t.n=0 then t.b else symL t.n) ht)
  omega
 unfold T.has
 rcases hok.each t ht with ⟨h0,hb⟩ | ⟨h1,h2,h3,h4⟩
 ·rw [if_pos h0]
  exact hx t.b (by omega) (hm _ (by rw [if_pos h0]))
 ·have h0:t.n≠0:=by omega
  rw [if_neg h0]
  have a:=symL_is t.n h1 h2
  have b:=symD_is t.d h3 h4
  refine ⟨hx _ (by omega) (hm _ (by rw [if_neg h0])),hy _ (by omega) ?_⟩
  unfold distCount
  exact List.count_pos_iff.2 (List.mem_map_of_mem (f:=fun t:T=>symD t.d) (List.mem_filter.2 ⟨ht,by simpa using h0⟩))
theorem told_tells {out c:List Nat} {ts:List T} {p last:Nat} {x0 y0 z:List Nat} (hl:last<2) (hok:Oks out ts) (hx:exts out ts=out++c) (h1:LimOk (symCount ts) 15 286 x0) (h2:LimOk (distCount ts) 15 30 y0) (h3:LimOk (oftenOf x0 y0) 7 19 z) :
  Tellsc out c p last (ts.length+1) (head last 2++((planOf x0 y0 z).bits++(tbits (planOf x0 y0 z).x (planOf x0 y0 z).y ts++wb (planOf x0 y0 z).x 256))):=by
 intro zs most F hm hF h
 obtain ⟨p1,p2,p3,p4,p5⟩:=plan_ok h1 h2 (by unfold symCount;rw [if_pos rfl];omega) h3
 rw [← hx]
 exact block_told p1 p2 p3 hl (by omega) (toks_of hok (told_has hok p4 p5)) (by rw [hx];exact hm) h
def bbits (c:List Nat):List Bool:=(c.map fun b=>nb b 8).flatten
theorem bbits_length:∀ c:List Nat,(bbits c).length=8*c.length
 | []=>rfl
 | v :: vs=>by
  have:=bbits_length vs
  unfold bbits at this ⊢
  rw [List.map_cons,List.flatten_cons,List.length_append,nb_length,this,List.length_cons]
  omega
theorem bytes_bits {I:In}:∀ (c out:List Nat) (p:Nat),(∀ v∈c,v<256)→Lies I p (bbits c)→Infl.bytes c.length out I p=.ok (out++c) (p+8*c.length)
 | [],out,p,_,_=>by rw [List.append_nil];rfl
 | v :: vs,out,p,h,hl=>by
  have e:bbits (v :: vs)=nb v 8++bbits vs:=by unfold bbits;rw [List.map_cons,List.flatten_cons]
  rw [e] at hl
  have r:=hl.right
  rw [nb_length] at r
  rw [List.length_cons,Infl.bytes,bind_of (get_nb hl.left (h v (by simp))),bytes_bits vs (out++[v]) (p+8) (fun x hx=>h x (by simp [hx])) r]
  rw [List.append_assoc,List.singleton_append]
  congr 1
  omega
def pad (p:Nat):List Bool:=List.replicate ((p+7) / 8*8 - p) false
theorem stored_tells {out c:List Nat} {p last:Nat} (hl:last<2) (hc:c.length≤65535) (hs:∀ v∈c,v<256):Tellsc out c p last 0 (head last 0++(pad (p+3)++(nb c.length 16++(nb (65535 - c.length) 16++bbits c)))):=by
 intro zs most F hm hF h
 obtain ⟨h1,h2,h3⟩:=head_reads hl (by decide) h
 have r1:=h3.right
 have hp:p+3+(pad (p+3)).length=(p+3+7) / 8*8:=by unfold pad;rw [List.length_replicate];omega
 rw [hp] at r1
 have g1:=get_nb r1.left (by omega)
 have r2:=r1.right
 rw [nb_length] at r2
 have g2:=get_nb r2.left (by omega)
 have r3:=r2.right
 rw [nb_length] at r3
 have g3:=bytes_bits c out _ hs r3
 have hk:byKind 0 most F out (Infl.bitsOf zs) (p+3)=.ok (out++c) ((p+3+7) / 8*8+16+16+8*c.length):=by
  show Infl.stored most out (Infl.bitsOf zs) (p+3)=_
  unfold Infl.stored
  rw [bind_of (x:=()) (o:=(p+3+7) / 8*8) (by rfl),bind_of g1,bind_of g2,if_neg (by omega),if_neg (by rw [List.length_append] at hm;omega)]
  exact g3
 rw [block_is h1 h2 (x:=0) hk]
 have e1:(head last 0++(pad (p+3)++(nb c.length 16++(nb (65535 - c.length) 16++bbits c)))).length=3+((pad (p+3)).length+(16+(16+8*c.length))):=by
  rw [List.length_append,List.length_append,List.length_append,List.length_append,nb_length,nb_length,bbits_length]
  rw [show (head last 0).length=3 from by unfold head;rw [List.length_append,nb_length,nb_length]]
 rw [e1]
 congr 1
 omega
inductive Chain:List Nat→List Bool→Prop
 | nil:Chain [] []
 | step {out c:List Nat} {B L:List Bool} {F0:Nat} (h:Chain out B) (hb:Tellsc out c B.length 0 F0 L):Chain (out++c) (B++L)
theorem chain_goes {zs:List Nat} {most:Nat} {out:List Nat} {B:List Bool} (h:Chain out B) (hl:Lies (Infl.bitsOf zs) 0 B) (hm:out.length≤most):Goes most zs out B.length:=by
 induction h with
 | nil=>exact Goes.start most zs
 | step h hb ih =>
  rename_i out c B L F0
  have hr:=hl.right
  rw [Nat.zero_add] at hr
  have:=(ih hl.left (by rw [List.length_append] at hm;omega)).next (hb zs most F0 hm (Nat.le_refl _) hr)
  rw [List.length_append]
  exact this
theorem chain_tells {zs:List Nat} {most:Nat} {out c:List Nat} {B L:List Bool} {F0:Nat} (h:Chain out B) (hb:Tellsc out c B.length 1 F0 L) (hl:Lies (Infl.bitsOf zs) 0 (B++L)) (hm:(out++c).length≤most):Tells gg ce (Infl.bitsOf zs) most (.ok (out++c) (B++L).length):=by
 have hr:=hl.right
 rw [Nat.zero_add] at hr
 have:=(chain_goes h hl.left (by rw [List.length_append] at hm;omega)).fin (hb zs most F0 hm (Nat.le_refl _) hr)
 rw [List.length_append]
 exact this
end Defl
namespace Defl
open Infl
def storedB (c:List Nat) (last p:Nat):List Bool:=head last 0++(pad (p+3)++(nb c.length 16++(nb (65535 - c.length) 16++bbits c)))
def fixedB (ts:List T) (last:Nat):List Bool:=head last 1++(tbits fixedL fixedD ts++wb fixedL 256)
def toldB (d:List Nat × List Nat × List Nat) (ts:List T) (last:Nat):List Bool :=
 head last 2++((planOf d.1 d.2.1 d.2.2).bits++(tbits (planOf d.1 d.2.1 d.2.2).x (planOf d.1 d.2.1 d.2.2).y ts++wb (planOf d.1 d.2.1 d.2.2).x 256))
def fewest (A B:List Bool):List Bool:=if B.length<A.length then B else A
def pick (kind:Nat) (S F D:List Bool):List Bool:=if kind=1 then S else if kind=2 then F else if kind=3 then D else fewest (fewest S F) D
theorem fewest_one (A B:List Bool):fewest A B=A∨fewest A B=B:=by
 unfold fewest
 split
 ·exact .inr rfl
 ·exact .inl rfl
theorem pick_one (kind:Nat) (S F D:List Bool):pick kind S F D=S∨pick kind S F D=F∨pick kind S F D=D:=by
 unfold pick
 by_cases h1:kind=1
 ·rw [if_pos h1];exact .inl rfl
 ·rw [if_neg h1]
  by_cases h2:kind=2
  ·rw [if_pos h2];exact .inr (.inl rfl)
  ·rw [if_neg h2]
   by_cases h3:kind=3
   ·rw [if_pos h3];exact .inr (.inr rfl)
   ·rw [if_neg h3]
    rcases fewest_one (fewest S F) D with e | e
    ·rw [e]
     rcases fewest_one S F with e | e
     ·exact .inl e
     ·exact .inr (.inl e)
    ·exact .inr (.inr e)
theorem pick_best (S F D:List Bool):(pick 0 S F D).length≤S.length∧(pick 0 S F D).length≤F.length∧(pick 0 S F D).length≤D.length:=by
 unfold pick fewest
 rw [if_neg (by decide),if_neg (by decide),if_neg (by decide)]
 by_cases h1:F.length<S.length
 ·rw [if_pos h1]
  by_cases h2:D.length<F.length
  ·rw [if_pos h2];omega
  ·rw [if_neg h2];omega
 ·rw [if_neg h1]
  by_cases h2:D.length<S.length
  ·rw [if_pos h2];omega
  ·rw [if_neg h2];omega
section
variable (zs:List Nat) (k kind:Nat) (tk:Nat→Nat→List T) (pl:List T→List Nat × List Nat × List Nat)
def ende (a:Nat):Nat:=min (a+k) zs.length
def lastOf (a:Nat):Nat:=if zs.length≤a+k then 1 else 0
def piece (a:Nat):List Nat:=(zs.take (ende zs k a)).drop a
def ownB (a p:Nat):List Bool:=pick kind (storedB (piece zs k a) (lastOf zs k a) p) (fixedB (tk a (ende zs k a)) (lastOf zs k a)) (toldB (pl (tk a (ende zs k a))) (tk a (ende zs k a)) (lastOf zs k a))
def deflF:Nat→Nat→List Bool→List Bool
 | 0,_,B=>B
 | f+1,a,B=>if zs.length≤a+k then B++ownB zs k kind tk pl a B.length else deflF f (a+k) (B++ownB zs k kind tk pl a B.length)
structure Tools:Prop where
 oks:∀ a e,a≤e→e≤zs.length→Oks (zs.take a) (tk a e)
 ext:∀ a e,a≤e→e≤zs.length→exts (zs.take a) (tk a e)=zs.take e
 l1:∀ a e,a≤e→e≤zs.length→LimOk (symCount (tk a e)) 15 286 (pl (tk a e)).1
 l2:∀ a e,a≤e→e≤zs.length→LimOk (distCount (tk a e)) 15 30 (pl (tk a e)).2.1
 l3:∀ a e,a≤e→e≤zs.length→LimOk (oftenOf (pl (tk a e)).1 (pl (tk a e)).2.1) 7 19 (pl (tk a e)).2.2
variable {zs k kind tk pl}
theorem take_piece (a:Nat) (ha:a≤zs.length):zs.take a++piece zs k a=zs.take (ende zs k a):=by
 unfold piece
 have h:(zs.take (ende zs k a)).take a=zs.take a:=by
  rw [List.take_take]
  congr 1
  unfold ende
  omega
 rw [← h,List.take_append_drop]
theorem piece_len (a:Nat) (ha:a≤zs.length):(piece zs k a).length≤k:=by
 unfold piece ende
 rw [List.length_drop,List.length_take]
 omega
theorem own_tells (hT:Tools zs tk pl) (hs:∀ z∈zs,z<256) (hk:k≤65535) (a p:Nat) (ha:a≤zs.length):∃ F0,Tellsc (zs.take a) (piece zs k a) p (lastOf zs k a) F0 (ownB zs k kind tk pl a p):=by
 have he:a≤ende zs k a∧ende zs k a≤zs.length:=by unfold ende;omega
 have hl:lastOf zs k a<2:=by unfold lastOf;split <;> decide
 have hx:=take_piece (k:=k) a ha
 have hext:=hT.ext a (ende zs k a) he.1 he.2
 unfold ownB
 rcases pick_one kind (storedB (piece zs k a) (lastOf zs k a) p) (fixedB (tk a (ende zs k a)) (lastOf zs k a)) (toldB (pl (tk a (ende zs k a))) (tk a (ende zs k a)) (lastOf zs k a)) with e | e | e
 ·rw [e]
  exact ⟨0,stored_tells hl (Nat.le_trans (piece_len a ha) hk) (fun v hv=>hs v (List.mem_of_mem_take (List.mem_of_mem_drop hv)))⟩
 ·rw [e]
  exact ⟨_,fixed_tells hl (hT.oks _ _ he.1 he.2) (by rw [hext,hx])⟩
 ·rw [e]
  exact ⟨_,told_tells hl (hT.oks _ _ he.1 he.2) (by rw [hext,hx]) (hT.l1 _ _ he.1 he.2) (hT.l2 _ _ he.1 he.2) (hT.l3 _ _ he.1 he.2)⟩
theorem defl_chain (hT:Tools zs tk pl) (hs:∀ z∈zs,z<256) (hk1:1≤k) (hk:k≤65535):∀ (f a:Nat) (B:List Bool),a≤zs.length→zs.length<a+f*k∨(f=1∧zs.length≤a+k)→Chain (zs.take a) B →
  ∃ (out c:List Nat) (B' L:List Bool) (F0:Nat),deflF zs k kind tk pl f a B=B'++L∧Chain out B'∧Tellsc out c B'.length 1 F0 L∧out++c=zs
 | 0,a,B,ha,h,_=>by
  rcases h with h | ⟨h,_⟩
  ·rw [Nat.zero_mul] at h;omega
  ·cases h
 | f+1,a,B,ha,h,hc=>by
  obtain ⟨F0,ht⟩:=own_tells (kind:=kind) hT hs hk a B.length ha
  unfold deflF
  by_cases hl:zs.length≤a+k
  ·rw [if_pos hl]
   have h1:lastOf zs k a=1:=by unfold lastOf;rw [if_pos hl]
   rw [h1] at ht
   refine ⟨zs.take a,piece zs k a,B,_,F0,rfl,hc,ht,?_⟩
   rw [take_piece a ha]
   exact List.take_of_length_le (by unfold ende;omega)
  ·rw [if_neg hl]
   have h1:lastOf zs k a=0:=by unfold lastOf;rw [if_neg hl]
   rw [h1] at ht
   have hstep:=Chain.step hc ht
   rw [take_piece a ha,show ende zs k a=a+k from by unfold ende;omega] at hstep
   refine defl_chain hT hs hk1 hk f (a+k) _ (by omega) ?_ hstep
   rcases h with h | ⟨h,h'⟩
   ·left
    rw [Nat.add_mul,Nat.one_mul] at h
    omega
   ·exact absurd h' hl
theorem pk_lies (m:Nat) (L:List Bool) (h:L.length≤8*m):Lies (Infl.bitsOf (Mth.pk false m L)) 0 L:=by
 refine ⟨by rw [bitsOf_m,Mth.pk_length];omega,fun i hi=>?_⟩
 rw [Nat.zero_add,← bitIn_is,Mth.bitIn_pk false m L i (by omega)]
theorem defl_tells (hT:Tools zs tk pl) (hs:∀ z∈zs,z<256) (hk1:1≤k) (hk:k≤65535) (f:Nat) (hf:zs.length<f*k) (L:List Bool) (hL:L=deflF zs k kind tk pl f 0 []) :
  Tells gg ce (Infl.bitsOf (Mth.pk false ((L.length+7) / 8) L)) zs.length (.ok zs L.length):=by
 obtain ⟨out,c,B',L',F0,e1,e2,e3,e4⟩:=defl_chain (kind:=kind) hT hs hk1 hk f 0 [] (Nat.zero_le _) (.inl (by rw [Nat.zero_add];exact hf)) (by rw [List.take_zero];exact Chain.nil)
 have hL':L=B'++L':=by rw [hL,e1]
 have:=chain_tells (most:=zs.length) e2 e3 (zs:=Mth.pk false ((L.length+7) / 8) L) (by rw [← hL'];exact pk_lies _ L (by omega)) (by rw [e4];exact Nat.le_refl _)
 rw [e4,← hL'] at this
 exact this
theorem stored_len (c:List Nat) (last p q:Nat):(storedB c last p).length≤(storedB c last q).length+7:=by
 simp only [storedB,pad,List.length_append,List.length_replicate]
 omega
theorem own_len (a p q:Nat):(ownB zs k 0 tk pl a p).length≤(ownB zs k kind tk pl a q).length+7:=by
 unfold ownB
 obtain ⟨b1,b2,b3⟩:=pick_best (storedB (piece zs k a) (lastOf zs k a) p) (fixedB (tk a (ende zs k a)) (lastOf zs k a)) (toldB (pl (tk a (ende zs k a))) (tk a (ende zs k a)) (lastOf zs k a))
 have hs:=stored_len (piece zs k a) (lastOf zs k a) p q
 rcases pick_one kind (storedB (piece zs k a) (lastOf zs k a) q) (fixedB (tk a (ende zs k a)) (lastOf zs k a)) (toldB (pl (tk a (ende zs k a))) (tk a (ende zs k a)) (lastOf zs k a)) with e | e | e
 ·rw [e];omega
 ·rw [e];omega
 ·rw [e];omega
theorem best_len (hk1:1≤k):∀ (f a i:Nat) (B1 B2:List Bool),a≤zs.length→zs.length<a+f*k→B1.length≤B2.length+7*i →
  (deflF zs k 0 tk pl f a B1).length≤(deflF zs k kind tk pl f a B2).length+7*(i+((zs.length - a) / k+1))
 | 0,a,i,B1,B2,ha,h,hb=>by rw [Nat.zero_mul] at h;omega
 | f+1,a,i,B1,B2,ha,h,hb=>by
  have ho:=own_len (zs:=zs) (k:=k) (kind:=kind) (tk:=tk) (pl:=pl) a B1.length B2.length
  unfold deflF
  by_cases hl:zs.length≤a+k
  ·rw [if_pos hl,if_pos hl,List.length_append,List.length_append]
   have:7*(i+((zs.length - a) / k+1))=7*i+7*((zs.length - a) / k)+7:=by omega
   omega
  ·rw [if_neg hl,if_neg hl]
   have hd:(zs.length - a) / k=(zs.length - (a+k)) / k+1:=by
    rw [show zs.length - a=(zs.length - (a+k))+k from by omega,Nat.add_div_right _ (by omega)]
   have ih:=best_len hk1 f (a+k) (i+1) (B1++ownB zs k 0 tk pl a B1.length) (B2++ownB zs k kind tk pl a B2.length) (by omega) (by rw [Nat.add_mul,Nat.one_mul] at h;omega) (by rw [List.length_append,List.length_append];omega)
   rw [hd]
   have e:i+1+((zs.length - (a+k)) / k+1)=i+((zs.length - (a+k)) / k+1+1):=by omega
   rw [e] at ih
   exact ih
theorem best_bytes (hk1:1≤k) (f:Nat) (hf:zs.length<f*k) :
  ((deflF zs k 0 tk pl f 0 []).length+7) / 8≤((deflF zs k kind tk pl f 0 []).length+7) / 8+(zs.length / k+1):=by
 have:=best_len (kind:=kind) (tk:=tk) (pl:=pl) hk1 f 0 0 [] [] (Nat.zero_le _) (by rw [Nat.zero_add];exact hf) (by simp)
 rw [Nat.zero_add,Nat.sub_zero] at this
 omega
end
end Defl
namespace Defl
open Infl
section
variable {zs:List Nat} {k:Nat} {tk:Nat→Nat→List T} {pl:List T→List Nat × List Nat × List Nat}
theorem bbits_get:∀ (c:List Nat) (i r:Nat),i<c.length→r<8→(bbits c).getD (8*i+r) false=(c.getD i 0).testBit r
 | [],i,r,h,_=>by simp at h
 | v :: vs,i,r,h,hr=>by
  have e:bbits (v :: vs)=nb v 8++bbits vs:=by unfold bbits;rw [List.map_cons,List.flatten_cons]
  rw [e]
  cases i with
  | zero =>
   rw [List.getD_eq_getElem?_getD,List.getElem?_append_left (by rw [nb_length];omega)]
   simp [nb,hr]
  | succ i =>
   rw [List.getD_eq_getElem?_getD,List.getElem?_append_right (by rw [nb_length];omega),nb_length,show 8*(i+1)+r - 8=8*i+r from by omega]
   have:=bbits_get vs i r (by simp at h;omega) hr
   rw [List.getD_eq_getElem?_getD] at this
   rw [this]
   rfl
end
end Defl
namespace W4
open Go.RowKit Mth Infl Defl
theorem nb_bits (v n:Nat):nb v n=Mth.bitsOf false v n:=by simp [nb,Mth.bitsOf,rk]
theorem wb_bits (ls:List Nat) (s:Nat):wb ls s=Mth.bitsOf true (Canon.wd ls s) (Canon.ln ls s):=by simp [wb,Mth.bitsOf,rk]
theorem bbits_of (c:List Nat):bbits c=ofBytes false c:=by
 refine List.ext_getElem (by rw [bbits_length,ofBytes_length]) fun i h1 h2=>?_
 have hl:=h1
 rw [bbits_length] at hl
 have e:=bbits_get c (i / 8) (i % 8) (by omega) (by omega)
 rw [show 8*(i / 8)+i % 8=i by omega] at e
 have e2:=ofBytes_getD false c i hl
 rw [List.getD_eq_getElem?_getD,List.getElem?_eq_getElem h1] at e
 rw [List.getD_eq_getElem?_getD,List.getElem?_eq_getElem h2] at e2
 simp only [Option.getD_some] at e e2
 rw [e,e2]
 simp [bitIn,rk]
def WrAt (w0:World) (v0:Value) (pb:Nat) (L:List Bool) (w:World):Prop:=∃ v m f,WOk w pb false v m L f∧f≤7∧Chg pb v0 w0 v w
def Safe (w0:World) (v0:Value) (pb k:Nat):Prop:=k<w0.heap.size∧k≠pb∧v0.ownBlock≠some k
theorem WrAt.block {w0 w:World} {v0:Value} {pb:Nat} {L:List Bool} (h:WrAt w0 v0 pb L w) {k:Nat} (hk:Safe w0 v0 pb k):w.heap[k]?=w0.heap[k]?:=by
 obtain ⟨v,m,f,_,_,hc⟩:=h
 exact hc.keep k hk.1 hk.2.1 hk.2.2
theorem WrAt.cell {w0 w:World} {v0:Value} {pb:Nat} {L:List Bool} (h:WrAt w0 v0 pb L w) {p:Addr} (hk:Safe w0 v0 pb p.block) {u:Value} (hu:w0.cell? p=some u):w.cell? p=some u:=by
 simp only [World.cell?] at hu ⊢
 rw [h.block hk]
 exact hu
theorem WrAt.below {w0 w w':World} {v0:Value} {pb:Nat} {L:List Bool} (h:WrAt w0 v0 pb L w) (hb:Below w.heap.size w w'):WrAt w0 v0 pb L w':=by
 obtain ⟨v,m,f,h1,h2,h3⟩:=h
 exact ⟨v,m,f,h1.below hb,h2,h3.trans (Chg.of_below hb)⟩
theorem WrAt.size {w0 w:World} {v0:Value} {pb:Nat} {L:List Bool} (h:WrAt w0 v0 pb L w):w0.heap.size≤w.heap.size:=by
 obtain ⟨v,m,f,_,_,hc⟩:=h
 exact hc.size
theorem WrAt.put {w0 w:World} {v0:Value} {pb:Nat} {L:List Bool} (h:WrAt w0 v0 pb L w) (V n:Nat) (hn:n≤64) (hV:V<2 ^ n) (hb:L.length+n≤1000000000000000) :
  Calls Tryz.prog 53 #[.pointer (some ⟨pb,0,none⟩),.int .u64 (V:Int),.int .i64 (n:Int)] w fun e w'=>e=.returned (.int .i64 0)∧WrAt w0 v0 pb (L++nb V n) w':=by
 obtain ⟨v,m,f,h1,h2,h3⟩:=h
 refine (put_ok pb m f false v L (V:Int) (n:Int) w h1 h2 (by omega) (by omega) (by omega) (by simpa using hV) (by simpa using hb)).mono ?_
 rintro e w' ⟨rfl,v',m',f',k1,k2,k3⟩
 refine ⟨rfl,v',m',f',?_,k2,h3.trans k3⟩
 rw [nb_bits]
 simpa using k1
theorem WrAt.word {w0 w:World} {v0:Value} {pb:Nat} {L:List Bool} (h:WrAt w0 v0 pb L w) (ls:List Nat) (cp lo hi s:Nat) (hc:Code ls w cp lo hi) (hs:s<ls.length) (h0:0<Canon.ln ls s) (hb:L.length+20≤1000000000000000) :
  Calls Tryz.prog 110 #[.pointer (some ⟨cp,0,none⟩),.pointer (some ⟨pb,0,none⟩),.int .i64 (s:Int)] w fun e w'=>e=.returned (.int .i64 0)∧WrAt w0 v0 pb (L++wb ls s) w':=by
 obtain ⟨v,m,f,h1,h2,h3⟩:=h
 refine (cput_ok ls cp lo hi s pb m f false v L w hc hs h0 h1 h2 hb).mono ?_
 rintro e w' ⟨rfl,v',m',f',k1,k2,k3⟩
 refine ⟨rfl,v',m',f',?_,k2,h3.trans k3⟩
 rw [wb_bits]
 exact k1
theorem pad_is {m f:Nat} {L:List Bool} (h:L.length+f=8*m) (hf:f≤7):pad L.length=List.replicate f false:=by
 unfold pad
 congr 1
 omega
theorem WrAt.align {w0 w:World} {v0:Value} {pb:Nat} {L:List Bool} (h:WrAt w0 v0 pb L w) :
  Calls Tryz.prog 52 #[.pointer (some ⟨pb,0,none⟩)] w fun e w'=>e=.returned (.int .i64 0)∧WrAt w0 v0 pb (L++pad L.length) w':=by
 obtain ⟨v,m,f,h1,h2,h3⟩:=h
 refine (walign_ok pb m f false v L w h1).mono ?_
 rintro e w' ⟨rfl,k1,k3⟩
 exact ⟨rfl,v,m,0,by rw [pad_is h1.len h2];exact k1,by omega,h3.trans k3⟩
theorem putBytes_nil (pb m:Nat) (v0:Value) (L:List Bool) (w:World) (hw:WOk w pb false v0 m L 0) :
  Calls Tryz.prog 54 #[.pointer (some ⟨pb,0,none⟩),.slice none 0 0] w fun e w'=>e=.returned (.int .i64 0)∧WOk w' pb false v0 m L 0∧Chg pb v0 w v0 w':=by
 obtain ⟨i0,hi,hz0,hz1,hz2⟩:=info_parts info5
 obtain ⟨va,vl,vc,rfl⟩:=own_form hw.row
 have c0:=hw.c0
 have c2:=hw.c2
 have c3:=hw.c3
 have H:=qz hw
 have hfz:=hw.fz 2
 have HSET:Hid (WOk (w.setCell ⟨pb,2,none⟩ (.slice va vl vc)) pb false (.slice va vl vc) m L 0∧Chg pb (.slice va vl vc) w (.slice va vl vc) (w.setCell ⟨pb,2,none⟩ (.slice va vl vc))):=qz (by
  have:=hw.growBytes (w1:=w) (v':=.slice va vl vc) (zs:=[]) (by simp) (by simpa using hw.row) (World.grownBy.refl _ _) (.inl rfl)
  simpa [ofBytes] using this)
 clear hw
 go_enter Tryz.func54,Tryz.ntmps54
 go_wp2_with (first
  | (go_at_call 31;refine (good_yes _ _ (by assumption)).mono ?_;rintro e w' ⟨rfl,rfl⟩)
  | (at_builtin;go_must (refine wpList_append_own_none rfl _ _ 22 rfl (pb+1) 5 i0 1 Tryz.underlying22 hi _ m _ (by rfl) (uh H).row (by rfl) ?_)))
 go_ret
 exact ⟨rfl,uh HSET⟩
theorem WrAt.bytes {w0 w:World} {v0:Value} {pb:Nat} {L:List Bool} (h:WrAt w0 v0 pb L w) (zs:List Nat) (a:Option Addr) (c:Nat) (hr:(a=none∧c=0∧zs=[])∨∃ ad,a=some ad∧∀ (j:Nat) u,(zs.map bv)[j]?=some u→w.cell? (ad.add j)=some u) (hz:∀ z∈zs,z<256) (hL:L.length % 8=0) (hb:L.length+8*zs.length≤1000000000000000) :
  Calls Tryz.prog 54 #[.pointer (some ⟨pb,0,none⟩),.slice a zs.length c] w fun e w'=>e=.returned (.int .i64 0)∧WrAt w0 v0 pb (L++bbits zs) w':=by
 obtain ⟨v,m,f,h1,h2,h3⟩:=h
 have hl:=h1.len
 obtain rfl:f=0:=by omega
 rcases hr with ⟨rfl,rfl,rfl⟩ | ⟨ad,rfl,hc⟩
 ·refine (putBytes_nil pb m v L w h1).mono ?_
  rintro e w' ⟨rfl,k1,k3⟩
  exact ⟨rfl,v,m,0,by simpa [bbits] using k1,by omega,h3.trans k3⟩
 ·refine (putBytes_ok pb m false v L ad c zs w h1 hz hc (by omega)).mono ?_
  rintro e w' ⟨rfl,v',k1,k3⟩
  exact ⟨rfl,v',m+zs.length,0,by rw [bbits_of];exact k1,by omega,h3.trans k3⟩
theorem begin_ok (xb pb kind:Nat) (last:Bool) (w0 w:World) (v0:Value) (L:List Bool) (h:WrAt w0 v0 pb L w) (hx:Safe w0 v0 pb xb) (hc:w0.cell? ⟨xb,0,none⟩=some (.bool last)) (hk1:1≤kind) (hk2:kind≤3) (hb:L.length+3≤1000000000000000) :
  Calls Tryz.prog 51 #[.pointer (some ⟨xb,0,none⟩),.pointer (some ⟨pb,0,none⟩),.int .i64 (kind:Int)] w fun e w'=>e=.returned (.tuple #[])∧WrAt w0 v0 pb (L++head last.toNat (kind - 1)) w':=by
 have c0:=h.cell (p:=⟨xb,0,none⟩) hx hc
 have HP:=qz (h.put last.toNat 1 (by omega) (by cases last <;> decide) (by omega))
 have HQ:Hid (∀ w',WrAt w0 v0 pb (L++nb last.toNat 1) w'→Calls Tryz.prog 53 #[.pointer (some ⟨pb,0,none⟩),.int .u64 ((kind:Int) - 1),.int .i64 2] w' fun e w''=>e=.returned (.int .i64 0)∧WrAt w0 v0 pb (L++head last.toNat (kind - 1)) w''):=qz (fun w' hw'=>by
  have:=hw'.put (kind - 1) 2 (by omega) (by omega) (by rw [List.length_append,nb_length];omega)
  rw [show ((kind - 1:Nat):Int)=(kind:Int) - 1 by omega,List.append_assoc] at this
  exact this)
 have e1:(1:Int)≤(kind:Int):=by omega
 have e2:(kind:Int)≤3:=by omega
 clear h hb hc
 cases last with
 | true =>
  go_enter Tryz.func51,Tryz.ntmps51
  go_wp2_with fail
  refine (uh HP).mono ?_
  rintro e w1 ⟨rfl,h1⟩
  have H1:=qz h1
  clear h1
  go_wp2_with fail
  refine (uh HQ w1 (uh H1)).mono ?_
  rintro e w2 ⟨rfl,h2⟩
  have H2:=qz h2
  clear h2
  go_wp2_with fail
  go_end0
  exact ⟨rfl,uh H2⟩
 | false =>
  go_enter Tryz.func51,Tryz.ntmps51
  go_wp2_with fail
  refine (uh HP).mono ?_
  rintro e w1 ⟨rfl,h1⟩
  have H1:=qz h1
  clear h1
  go_wp2_with fail
  refine (uh HQ w1 (uh H1)).mono ?_
  rintro e w2 ⟨rfl,h2⟩
  have H2:=qz h2
  clear h2
  go_wp2_with fail
  go_end0
  exact ⟨rfl,uh H2⟩
def BlkAt (w:World) (xb:Nat) (last:Bool) (plain toks fx fy own:Value):Prop:=w.heap[xb]?=some (.cells #[.bool last,plain,toks,fx,fy,own] 65 (0,0))
theorem BlkAt.c {w:World} {xb:Nat} {last:Bool} {plain toks fx fy own:Value} (h:BlkAt w xb last plain toks fx fy own):w.cell? ⟨xb,0,none⟩=some (.bool last)∧w.cell? ⟨xb,1,none⟩=some plain∧w.cell? ⟨xb,2,none⟩=some toks∧w.cell? ⟨xb,3,none⟩=some fx∧w.cell? ⟨xb,4,none⟩=some fy∧w.cell? ⟨xb,5,none⟩=some own:=by
 unfold BlkAt at h
 simp [World.cell?,h]
def storedBits (n at_:Nat):Nat:=3+((at_+3+7) / 8*8 - (at_+3))+32+8*n
theorem weighStored_ok (xb at_ n:Nat) (a:Option Addr) (c:Nat) (last:Bool) (toks fx fy own:Value) (w:World) (h:BlkAt w xb last (.slice a n c) toks fx fy own) (hn:n≤65535) (ha:at_≤1000000000000000) :
  Calls Tryz.prog 20 #[.pointer (some ⟨xb,0,none⟩),.int .i64 (at_:Int)] w fun e w'=>e=.returned (.int .i64 (storedBits n at_:Int))∧w'=w:=by
 obtain ⟨c0,c1,_⟩:=h.c
 unfold storedBits
 have e1:((3+((at_+3+7) / 8*8 - (at_+3))+32+8*n:Nat):Int)=3+((8 - ((at_:Int)+3) % 8) % 8)+32+8*(n:Int):=by omega
 rw [e1]
 clear h e1
 go_enter Tryz.func20,Tryz.ntmps20
 go_wp2_with fail
 go_ret
 refine ⟨?_,rfl⟩
 show Ending.returned (.int .i64 (3 + -(((at_:Int)+3) % 8) % 8+32+8*(n:Int)))=_
 congr 2
 omega
theorem storedB_len (c:List Nat) (last p:Nat):(storedB c last p).length=storedBits c.length p:=by
 unfold storedB storedBits
 simp only [List.length_append,head,nb_length,pad,List.length_replicate,bbits_length]
 omega
theorem xor_sixteen (n:Nat) (h:n≤65535):Go.bits .xor .u64 (n:Int) 65535=((65535 - n:Nat):Int):=by
 have e:=u64_xor_nat n 65535 (by omega) (by omega)
 have e2:n ^^^ 65535=65535 - n:=by
  refine Nat.eq_of_testBit_eq fun i=>?_
  have h1:=Nat.testBit_two_pow_sub_succ (x:=n) (n:=16) (by omega) i
  have h2:=Nat.testBit_two_pow_sub_one 16 i
  rw [show 2 ^ 16 - (n+1)=65535 - n by omega] at h1
  rw [show 2 ^ 16 - 1=65535 by decide] at h2
  rw [Nat.testBit_xor,h1,h2]
  by_cases hi:i<16
  ·simp [hi]
  ·have:n.testBit i=false:=Nat.testBit_lt_two_pow (Nat.lt_of_lt_of_le (show n<2 ^ 16 by omega) (Nat.pow_le_pow_right (by decide) (by omega)))
   simp [hi,this]
 rw [← e2]
 exact e
theorem add_block (ad:Addr) (j:Nat):(ad.add j).block=ad.block:=by
 unfold Addr.add
 split <;> rfl
theorem putStored_ok (xb pb:Nat) (zs:List Nat) (a:Option Addr) (c:Nat) (last:Bool) (toks fx fy own:Value) (w0 w:World) (v0:Value) (L:List Bool) (h:WrAt w0 v0 pb L w) (hx:Safe w0 v0 pb xb) (hc:BlkAt w0 xb last (.slice a zs.length c) toks fx fy own)
  (hr:(a=none∧c=0∧zs=[])∨∃ ad,a=some ad∧(zs=[]∨Safe w0 v0 pb ad.block)∧∀ (j:Nat) u,(zs.map bv)[j]?=some u→w0.cell? (ad.add j)=some u) (hz:∀ z∈zs,z<256) (hn:zs.length≤65535) (hb:L.length≤900000000000000) :
  Calls Tryz.prog 21 #[.pointer (some ⟨xb,0,none⟩),.pointer (some ⟨pb,0,none⟩)] w fun e w'=>e=.returned (.tuple #[])∧WrAt w0 v0 pb (L++storedB zs last.toNat L.length) w':=by
 obtain ⟨c0,c1,_⟩:=hc.c
 have HC1:Hid (∀ L' w',WrAt w0 v0 pb L' w'→w'.cell? ⟨xb,1,none⟩=some (.slice a zs.length c)):=qz (fun L' w' h'=>h'.cell (p:=⟨xb,1,none⟩) hx c1)
 have HBG:=qz (begin_ok xb pb 1 last w0 w v0 L h hx c0 (by omega) (by omega) (by omega))
 have HXR:=xor_sixteen zs.length hn
 have HBY:Hid (∀ L' w',WrAt w0 v0 pb L' w'→L'.length % 8=0→L'.length≤990000000000000→Calls Tryz.prog 54 #[.pointer (some ⟨pb,0,none⟩),.slice a zs.length c] w' fun e w''=>e=.returned (.int .i64 0)∧WrAt w0 v0 pb (L'++bbits zs) w''):=qz (fun L' w' h' h8 hl=>by
  refine h'.bytes zs a c ?_ hz h8 (by omega)
  rcases hr with h1 | ⟨ad,h1,h2,h3⟩
  ·exact .inl h1
  ·exact .inr ⟨ad,h1,fun j u hj=>h'.cell (p:=ad.add j) (by
    rcases h2 with h2 | h2
    ·rw [h2] at hj;simp at hj
    ·rw [add_block];exact h2) (h3 j u hj)⟩)
 obtain ⟨n,hn'⟩:∃ n,n=zs.length:=⟨_,rfl⟩
 have HN:=qz hn'
 rw [← hn'] at hn HC1 HXR HBY
 clear h hc hr hz c0 c1 hn'
 go_enter Tryz.func21,Tryz.ntmps21
 go_wp2_with fail
 refine (uh HBG).mono ?_
 rintro e w1 ⟨rfl,h1⟩
 have H1:=qz h1
 clear h1 HBG
 go_wp2_with fail
 refine ((uh H1).align).mono ?_
 rintro e w2 ⟨rfl,h2⟩
 have c2:=uh HC1 _ _ h2
 have H2:=qz h2
 clear h2 H1
 have hp8:((L++head last.toNat (1 - 1))++pad (L++head last.toNat (1 - 1)).length).length % 8=0∧((L++head last.toNat (1 - 1))++pad (L++head last.toNat (1 - 1)).length).length≤L.length+20:=by
  simp only [List.length_append,head,nb_length,pad,List.length_replicate]
  omega
 have HEQ:Hid (((((L++head last.toNat (1 - 1))++pad (L++head last.toNat (1 - 1)).length)++nb n 16)++nb (65535 - n) 16)++bbits zs=L++storedB zs last.toNat L.length):=qz (by
  unfold storedB
  rw [uh HN]
  have:(L++head last.toNat (1 - 1)).length=L.length+3:=by simp [head,nb_length]
  rw [this]
  simp only [List.append_assoc])
 generalize ((L++head last.toNat (1 - 1))++pad (L++head last.toNat (1 - 1)).length)=L2 at H2 hp8 HEQ
 have HP1:=qz ((uh H2).put n 16 (by omega) (by omega) (by omega))
 clear H2
 go_wp2_with fail
 refine (uh HP1).mono ?_
 rintro e w3 ⟨rfl,h3⟩
 have HP2:=qz (h3.put (65535 - n) 16 (by omega) (by omega) (by rw [List.length_append,nb_length];omega))
 clear h3 HP1 c2
 go_wp2_with fail
 refine (uh HP2).mono ?_
 rintro e w4 ⟨rfl,h4⟩
 have c4:=uh HC1 _ _ h4
 have HP3:=qz (uh HBY _ _ h4 (by simp only [List.length_append,nb_length];omega) (by simp only [List.length_append,nb_length];omega))
 clear h4 HP2
 go_wp2_with fail
 refine (uh HP3).mono ?_
 rintro e w5 ⟨rfl,h5⟩
 rw [uh HEQ] at h5
 have H5:=qz h5
 clear h5 HP3
 go_wp2_with fail
 go_end0
 exact ⟨rfl,uh H5⟩
end W4
section
open Go.RowKit Infl
attribute [local go_sem ↓] wp_at_zero wp_at_succ
theorem heap_alloc_at (w:World) (o:Obj) (k:Nat):(w.alloc o).heap[k]?=if k=w.heap.size then some o else w.heap[k]?:=by
 simp only [World.alloc,Array.getElem?_push]
theorem alloc_size (w:World) (o:Obj):(w.alloc o).heap.size=w.heap.size+1:=by simp
theorem results_cell {fn:Func} {p:Tmp} {ty:TypeId} (h:fn.results=#[.cell p ty]) (tmps:Array Value) (P:Program) (w:World) :
  (results fn tmps).run P w=((asAddr (tmps.getD p undef)).run P w).andThen fun a w₁=>(loadVar ty a).run P w₁:=by
 simp only [results,h]
 simp [Sem.run_bind,Result.andThen]
def LookAt (N first last:Nat) (le ex:Nat→Nat):Prop:=∀ (s:Nat) (w:World),first≤s→s≤last→Calls Tryz.prog N #[.int .i64 (s:Int)] w fun e w'=>e=.returned (.tuple #[.int .i64 (le s:Int),.int .i64 (ex s:Int),.int .i64 0])∧w'=w
theorem look_lens:LookAt 138 257 285 (fun s=>(lenOf s).1) (fun s=>(lenOf s).2):=fun s w h1 h2=>by
 have:=len_ok (s:Int) w
 unfold lenAns at this
 rwa [if_neg (by omega)] at this
theorem look_dists:LookAt 139 0 29 (fun s=>(distOf s).1) (fun s=>(distOf s).2):=fun s w h1 h2=>by
 have:=dist_ok (s:Int) w
 unfold distAns at this
 rwa [if_neg (by omega)] at this
def testB (le:Nat→Nat) (first v i:Nat):Bool:=decide (v<le (first+i))
theorem test_len (i:Nat) (hi:257+i≤285) (v pf p1 pv:Nat) (w:World) (h1:w.cell? ⟨pf,0,none⟩=some (.func (.func 138) #[] #[])) (h2:w.cell? ⟨p1,0,none⟩=some (.int .i64 257)) (h3:w.cell? ⟨pv,0,none⟩=some (.int .i64 (v:Int))) :
  Calls Tryz.prog 156 #[.int .i64 (i:Int),.pointer (some ⟨pf,0,none⟩),.pointer (some ⟨p1,0,none⟩),.pointer (some ⟨pv,0,none⟩)] w fun e w'=>e=.returned (.bool (testB (fun s=>(lenOf s).1) 257 v i))∧w'=w:=by
 have HL:=qz (look_lens (257+i) w (by omega) (by omega))
 have e1:((257+i:Nat):Int)=257+(i:Int):=by omega
 rw [e1] at HL
 clear e1
 obtain ⟨b,hb2⟩:∃ b,b=testB (fun s=>(lenOf s).1) 257 v i:=⟨_,rfl⟩
 have hb3:decide (v<(lenOf (257+i)).1)=b:=by rw [hb2];unfold testB;rfl
 rw [← hb2]
 simp only at HL
 generalize (lenOf (257+i)).1=l at HL hb3
 generalize (lenOf (257+i)).2=x at HL
 have HB3:=qz hb3
 clear hb2 hb3
 go_enter Tryz.func156,Tryz.ntmps156
 go_wp2_with fail
 refine (uh HL).mono ?_
 rintro e w1 ⟨rfl,rfl⟩
 go_wp2_with fail
 go_ret
 exact ⟨by rw [uh HB3];rfl,rfl⟩
theorem test_dist (i:Nat) (hi:0+i≤29) (v pf p1 pv:Nat) (w:World) (h1:w.cell? ⟨pf,0,none⟩=some (.func (.func 139) #[] #[])) (h2:w.cell? ⟨p1,0,none⟩=some (.int .i64 0)) (h3:w.cell? ⟨pv,0,none⟩=some (.int .i64 (v:Int))) :
  Calls Tryz.prog 156 #[.int .i64 (i:Int),.pointer (some ⟨pf,0,none⟩),.pointer (some ⟨p1,0,none⟩),.pointer (some ⟨pv,0,none⟩)] w fun e w'=>e=.returned (.bool (testB (fun s=>(distOf s).1) 0 v i))∧w'=w:=by
 have HL:=qz (look_dists (i) w (by omega) (by omega))
 obtain ⟨b,hb2⟩:∃ b,b=testB (fun s=>(distOf s).1) 0 v i:=⟨_,rfl⟩
 have hb3:decide (v<(distOf (i)).1)=b:=by rw [hb2];unfold testB;simp
 rw [← hb2]
 simp only at HL
 generalize (distOf (i)).1=l at HL hb3
 generalize (distOf (i)).2=x at HL
 have HB3:=qz hb3
 clear hb2 hb3
 go_enter Tryz.func156,Tryz.ntmps156
 go_wp2_with fail
 refine (uh HL).mono ?_
 rintro e w1 ⟨rfl,rfl⟩
 go_wp2_with fail
 go_ret
 exact ⟨by rw [uh HB3];rfl,rfl⟩
theorem search_ok (n:Nat) (hn:n≤1000) (p:Nat→Bool) (caps:Array Value) (w:World) (hf:∀ i,i<n→Calls Tryz.prog 156 (#[.int .i64 (i:Int)]++caps) w fun e w'=>e=.returned (.bool (p i))∧w'=w) (hm:∀ i j,i≤j→j<n→p i=true→p j=true) :
  Calls Tryz.prog 155 #[.int .i64 (n:Int),.func (.func 156) #[] caps] w fun e w'=>(∃ k:Nat,e=.returned (.int .i64 (k:Int))∧k≤n∧(∀ i,i<k→p i=false)∧∀ i,k≤i→i<n→p i=true)∧w'=w:=by
 have HF:=qz hf
 have HM:=qz hm
 clear hf hm
 go_enter Tryz.func155,Tryz.ntmps155
 go_wp2_with fail
 go_loopg [5,6] n (fun gk iv jv ws=>∃ i j:Nat,gk=j - i∧iv=.int .i64 (i:Int)∧jv=.int .i64 (j:Int)∧i≤j∧j≤n∧ws=w∧Hid ((∀ t,t<i→p t=false)∧∀ t,j≤t→t<n→p t=true))
 case atStart=>exact ⟨0,n,rfl,rfl,rfl,by omega,by omega,rfl,fun t h=>by omega,fun t h h2=>by omega⟩
 case round =>
  obtain ⟨i,j,rfl,rfl,rfl,hij,hjn,rfl,hp⟩:=hrel
  by_cases hlt:i<j
  ·have e1:(i:Int)<(j:Int):=by omega
   obtain ⟨h,hh⟩:∃ h,h=(i+j) / 2:=⟨_,rfl⟩
   have e2:((i:Int)+(j:Int)) / 2=(h:Int):=by omega
   have hi1:i≤h:=by omega
   have hi2:h<j:=by omega
   have HC:=qz (uh HF h (by omega))
   obtain ⟨b,hb⟩:∃ b,b=p h:=⟨_,rfl⟩
   rw [← hb] at HC
   have HBB:=qz hb
   clear hh hb
   go_wp2_with fail
   refine (uh HC).mono ?_
   rintro e w1 ⟨rfl,rfl⟩
   cases b with
   | true =>
    go_wp2_with fail
    go_roundg (h - i)
    case measure=>omega
    case rel=>exact ⟨i,h,rfl,rfl,rfl,by omega,by omega,rfl,(uh hp).1,fun t h1 h2=>uh HM h t h1 h2 (uh HBB).symm⟩
   | false =>
    go_wp2_with fail
    go_roundg (j - (h+1))
    case measure=>omega
    case rel =>
     refine ⟨h+1,j,rfl,by go_num,rfl,by omega,by omega,rfl,fun t ht=>?_,(uh hp).2⟩
     cases hc:p t with
     | false=>rfl
     | true=>have:=uh HM t h (by omega) (by omega) hc;rw [← uh HBB] at this;cases this
  ·have e1:¬ (i:Int)<(j:Int):=by omega
   obtain rfl:i=j:=by omega
   go_wp2_with fail
   go_ret
   exact ⟨⟨i,rfl,hjn,(uh hp).1,(uh hp).2⟩,rfl⟩
structure Found (f:Nat→Nat) (first last v s:Nat):Prop where
 lo:first≤s
 hi:s≤last
 le:f s≤v
 next:∀ t,s<t→t≤last→v<f t
theorem Found.eq {f:Nat→Nat} {first last v s s':Nat} (h:Found f first last v s) (h':Found f first last v s'):s=s':=by
 rcases Nat.lt_trichotomy s s' with e | e | e
 ·have:=h.next s' e h'.hi;have:=h'.le;omega
 ·exact e
 ·have:=h'.next s e h.hi;have:=h.le;omega
def wordV (s m x:Nat):Value:=.agg #[.int .i64 (s:Int),.int .i64 (m:Int),.int .i64 (x:Int)]
theorem found_len (v:Nat) (h1:3≤v):Found (fun s=>(lenOf s).1) 257 285 v (symL v):=by
 obtain ⟨a,b,c⟩:=down_is (fun s=>(lenOf s).1) v 257 (by show (lenOf 257).1≤v;exact h1) 285 (by omega)
 exact ⟨a,down_le _ _ _,b,c⟩
theorem mono_len:∀ j,j<29→∀ i,i<j+1→(lenOf (257+i)).1≤(lenOf (257+j)).1:=by decide
theorem find_len (v:Nat) (w:World) (h1:3≤v) (h2:v≤258) :
  Calls Tryz.prog 137 #[.int .i64 (v:Int),.int .i64 257,.int .i64 285,.func (.func 138) #[] #[]] w fun e w'=>e=.returned (wordV (symL v) (v - (lenOf (symL v)).1) (lenOf (symL v)).2)∧Below w.heap.size w w':=by
 have HFD:=qz (found_len v h1)
 obtain ⟨s,hs⟩:∃ s,s=symL v:=⟨_,rfl⟩
 rw [← hs] at HFD ⊢
 clear hs
 have hle:(lenOf s).1≤v:=(uh HFD).le
 have e2:((v - (lenOf s).1:Nat):Int)=(v:Int) - ((lenOf s).1:Int):=by omega
 unfold wordV
 rw [e2]
 clear e2
 obtain ⟨le,hl1⟩:∃ le,le=(lenOf s).1:=⟨_,rfl⟩
 obtain ⟨ex,hl2⟩:∃ ex,ex=(lenOf s).2:=⟨_,rfl⟩
 rw [← hl1] at hle ⊢
 rw [← hl2]
 have HL1:=qz hl1
 have HL2:=qz hl2
 clear hl1 hl2
 go_enter Tryz.func137,Tryz.ntmps137
 go_wp2_with fail
 generalize hw4:World.alloc _ _=w4
 have HB:Hid (Below w.heap.size w w4):=qz (by
  rw [← hw4]
  exact ((((Below.refl _ _).alloc (by simp) _).alloc (by simp) _).alloc (by simp;omega) _).alloc (by simp;omega) _)
 have c0:w4.cell? ⟨w.heap.size,0,none⟩=some (.int .i64 (v:Int)):=by rw [← hw4];simp only [World.cell?,heap_alloc_at,alloc_size];(repeat (first | rw [if_pos (by omega)] | rw [if_neg (by omega)]));rfl
 have c1:w4.cell? ⟨w.heap.size+1,0,none⟩=some (.int .i64 257):=by rw [← hw4];simp only [World.cell?,heap_alloc_at,alloc_size];(repeat (first | rw [if_pos (by omega)] | rw [if_neg (by omega)]));rfl
 have c2:w4.cell? ⟨w.heap.size+1+1,0,none⟩=some (.func (.func 138) #[] #[]):=by rw [← hw4];simp only [World.cell?,heap_alloc_at,alloc_size];(repeat (first | rw [if_pos (by omega)] | rw [if_neg (by omega)]));rfl
 have c3:w4.heap[w.heap.size+1+1+1]?=some (.cells #[.int .i64 0,.int .i64 0,.int .i64 0] 141 (0,0)):=by rw [← hw4];simp only [heap_alloc_at,alloc_size];rw [if_pos trivial]
 have d0:w4.cell? ⟨w.heap.size+1+1+1,0,none⟩=some (.int .i64 0):=by simp only [World.cell?,c3];rfl
 have d1:w4.cell? ⟨w.heap.size+1+1+1,1,none⟩=some (.int .i64 0):=by simp only [World.cell?,c3];rfl
 have d2:w4.cell? ⟨w.heap.size+1+1+1,2,none⟩=some (.int .i64 0):=by simp only [World.cell?,c3];rfl
 have f0:∀ o,w4.frozen? ⟨w.heap.size+1+1+1,o,none⟩=false:=fun o=>by simp [World.frozen?,c3]
 clear hw4 c3
 have HS:=qz (search_ok 29 (by omega) (testB (fun s=>(lenOf s).1) 257 v) #[.pointer (some ⟨w.heap.size+1+1,0,none⟩),.pointer (some ⟨w.heap.size+1,0,none⟩),.pointer (some ⟨w.heap.size,0,none⟩)] w4 (fun i hi=>test_len i (by omega) v _ _ _ w4 c2 c1 c0) (fun i j hij hj h=>by
  have:=mono_len j hj i (by omega)
  unfold testB at h ⊢
  simp only [decide_eq_true_eq] at h ⊢
  omega))
 refine (uh HS).mono ?_
 rintro e w5 ⟨⟨k,rfl,hk,hk1,hk2⟩,rfl⟩
 have hks:k+257=s+1:=by
  have h0:1≤k:=by
   rcases Nat.eq_zero_or_pos k with e | e
   ·have:=hk2 0 (by omega) (by omega)
    unfold testB at this
    simp only [decide_eq_true_eq] at this
    have:(lenOf (257+0)).1=3:=by decide
    omega
   ·exact e
  have hf:Found (fun s=>(lenOf s).1) 257 285 v (257+(k - 1)):=by
   refine ⟨by omega,by omega,?_,fun t h1 h2=>?_⟩
   ·have:=hk1 (k - 1) (by omega)
    unfold testB at this
    simp only [decide_eq_false_iff_not] at this
    show (lenOf (257+(k - 1))).1≤v
    omega
   ·have:=hk2 (t - 257) (by omega) (by omega)
    unfold testB at this
    simp only [decide_eq_true_eq] at this
    rw [show 257+(t - 257)=t by omega] at this
    exact this
  have:=hf.eq (uh HFD)
  omega
 have e1:(257:Int)+(k:Int) - 1=(s:Int):=by omega
 have hk3:k≤29:=hk
 have HLK:=qz (look_lens s w5 (uh HFD).lo (uh HFD).hi)
 simp only at HLK
 rw [← uh HL1,← uh HL2] at HLK
 clear hk hk1 hk2 hks HS HFD HL1 HL2
 go_wp2_with fail
 refine (uh HLK).mono ?_
 rintro e w6 ⟨rfl,rfl⟩
 go_wp2_with fail
 refine bodyPost_ret (v:=.agg #[.int .i64 (s:Int),.int .i64 ((v:Int) - (le:Int)),.int .i64 (ex:Int)]) ?_ rfl ⟨rfl,(((uh HB).setCell (show w.heap.size≤w.heap.size+1+1+1 by omega) _).setCell (show w.heap.size≤w.heap.size+1+1+1 by omega) _).setCell (show w.heap.size≤w.heap.size+1+1+1 by omega) _⟩
 rw [results_cell rfl]
 go_simp
theorem found_dist (v:Nat) (h1:1≤v):Found (fun s=>(distOf s).1) 0 29 v (symD v):=by
 obtain ⟨a,b,c⟩:=down_is (fun s=>(distOf s).1) v 0 (by show (distOf 0).1≤v;exact h1) 29 (by omega)
 exact ⟨a,down_le _ _ _,b,c⟩
theorem mono_dist:∀ j,j<30→∀ i,i<j+1→(distOf (0+i)).1≤(distOf (0+j)).1:=by decide
theorem find_dist (v:Nat) (w:World) (h1:1≤v) (h2:v≤32768) :
  Calls Tryz.prog 137 #[.int .i64 (v:Int),.int .i64 0,.int .i64 29,.func (.func 139) #[] #[]] w fun e w'=>e=.returned (wordV (symD v) (v - (distOf (symD v)).1) (distOf (symD v)).2)∧Below w.heap.size w w':=by
 have HFD:=qz (found_dist v h1)
 obtain ⟨s,hs⟩:∃ s,s=symD v:=⟨_,rfl⟩
 rw [← hs] at HFD ⊢
 clear hs
 have hle:(distOf s).1≤v:=(uh HFD).le
 have e2:((v - (distOf s).1:Nat):Int)=(v:Int) - ((distOf s).1:Int):=by omega
 unfold wordV
 rw [e2]
 clear e2
 obtain ⟨le,hl1⟩:∃ le,le=(distOf s).1:=⟨_,rfl⟩
 obtain ⟨ex,hl2⟩:∃ ex,ex=(distOf s).2:=⟨_,rfl⟩
 rw [← hl1] at hle ⊢
 rw [← hl2]
 have HL1:=qz hl1
 have HL2:=qz hl2
 clear hl1 hl2
 go_enter Tryz.func137,Tryz.ntmps137
 go_wp2_with fail
 generalize hw4:World.alloc _ _=w4
 have HB:Hid (Below w.heap.size w w4):=qz (by
  rw [← hw4]
  exact ((((Below.refl _ _).alloc (by simp) _).alloc (by simp) _).alloc (by simp;omega) _).alloc (by simp;omega) _)
 have c0:w4.cell? ⟨w.heap.size,0,none⟩=some (.int .i64 (v:Int)):=by rw [← hw4];simp only [World.cell?,heap_alloc_at,alloc_size];(repeat (first | rw [if_pos (by omega)] | rw [if_neg (by omega)]));rfl
 have c1:w4.cell? ⟨w.heap.size+1,0,none⟩=some (.int .i64 0):=by rw [← hw4];simp only [World.cell?,heap_alloc_at,alloc_size];(repeat (first | rw [if_pos (by omega)] | rw [if_neg (by omega)]));rfl
 have c2:w4.cell? ⟨w.heap.size+1+1,0,none⟩=some (.func (.func 139) #[] #[]):=by rw [← hw4];simp only [World.cell?,heap_alloc_at,alloc_size];(repeat (first | rw [if_pos (by omega)] | rw [if_neg (by omega)]));rfl
 have c3:w4.heap[w.heap.size+1+1+1]?=some (.cells #[.int .i64 0,.int .i64 0,.int .i64 0] 141 (0,0)):=by rw [← hw4];simp only [heap_alloc_at,alloc_size];rw [if_pos trivial]
 have d0:w4.cell? ⟨w.heap.size+1+1+1,0,none⟩=some (.int .i64 0):=by simp only [World.cell?,c3];rfl
 have d1:w4.cell? ⟨w.heap.size+1+1+1,1,none⟩=some (.int .i64 0):=by simp only [World.cell?,c3];rfl
 have d2:w4.cell? ⟨w.heap.size+1+1+1,2,none⟩=some (.int .i64 0):=by simp only [World.cell?,c3];rfl
 have f0:∀ o,w4.frozen? ⟨w.heap.size+1+1+1,o,none⟩=false:=fun o=>by simp [World.frozen?,c3]
 clear hw4 c3
 have HS:=qz (search_ok 30 (by omega) (testB (fun s=>(distOf s).1) 0 v) #[.pointer (some ⟨w.heap.size+1+1,0,none⟩),.pointer (some ⟨w.heap.size+1,0,none⟩),.pointer (some ⟨w.heap.size,0,none⟩)] w4 (fun i hi=>test_dist i (by omega) v _ _ _ w4 c2 c1 c0) (fun i j hij hj h=>by
  have:=mono_dist j hj i (by omega)
  unfold testB at h ⊢
  simp only [decide_eq_true_eq] at h ⊢
  omega))
 refine (uh HS).mono ?_
 rintro e w5 ⟨⟨k,rfl,hk,hk1,hk2⟩,rfl⟩
 have hks:k+0=s+1:=by
  have h0:1≤k:=by
   rcases Nat.eq_zero_or_pos k with e | e
   ·have:=hk2 0 (by omega) (by omega)
    unfold testB at this
    simp only [decide_eq_true_eq] at this
    have:(distOf (0+0)).1=1:=by decide
    omega
   ·exact e
  have hf:Found (fun s=>(distOf s).1) 0 29 v (0+(k - 1)):=by
   refine ⟨by omega,by omega,?_,fun t h1 h2=>?_⟩
   ·have:=hk1 (k - 1) (by omega)
    unfold testB at this
    simp only [decide_eq_false_iff_not] at this
    show (distOf (0+(k - 1))).1≤v
    omega
   ·have:=hk2 (t - 0) (by omega) (by omega)
    unfold testB at this
    simp only [decide_eq_true_eq] at this
    rw [show 0+(t - 0)=t by omega] at this
    exact this
  have:=hf.eq (uh HFD)
  omega
 have e1:(k:Int) - 1=(s:Int):=by omega
 have hk3:k≤30:=hk
 have HLK:=qz (look_dists s w5 (uh HFD).lo (uh HFD).hi)
 simp only at HLK
 rw [← uh HL1,← uh HL2] at HLK
 clear hk hk1 hk2 hks HS HFD HL1 HL2
 go_wp2_with fail
 refine (uh HLK).mono ?_
 rintro e w6 ⟨rfl,rfl⟩
 go_wp2_with fail
 refine bodyPost_ret (v:=.agg #[.int .i64 (s:Int),.int .i64 ((v:Int) - (le:Int)),.int .i64 (ex:Int)]) ?_ rfl ⟨rfl,(((uh HB).setCell (show w.heap.size≤w.heap.size+1+1+1 by omega) _).setCell (show w.heap.size≤w.heap.size+1+1+1 by omega) _).setCell (show w.heap.size≤w.heap.size+1+1+1 by omega) _⟩
 rw [results_cell rfl]
 go_simp
end
section
open Go.RowKit Infl
theorem lenWord_ok (v:Nat) (w:World) (h1:3≤v) (h2:v≤258) :
  Calls Tryz.prog 107 #[.int .i64 (v:Int)] w fun e w'=>e=.returned (wordV (symL v) (v - (lenOf (symL v)).1) (lenOf (symL v)).2)∧Below w.heap.size w w':=by
 have HF:=qz (fun w=>find_len v w h1 h2)
 generalize (v - (lenOf (symL v)).1)=m at HF ⊢
 generalize (lenOf (symL v)).2=x at HF ⊢
 generalize symL v=s at HF ⊢
 unfold wordV at HF ⊢
 go_enter Tryz.func107,Tryz.ntmps107
 go_wp2_with fail
 obtain ⟨w1,hw1⟩:∃ w1,w1=w.alloc (.cells #[.int .i64 0,.int .i64 0,.int .i64 0] 141):=⟨_,rfl⟩
 have hs1:w1.heap.size=w.heap.size+1:=by rw [hw1];simp
 have c3:w1.heap[w.heap.size]?=some (.cells #[.int .i64 0,.int .i64 0,.int .i64 0] 141 (0,0)):=by rw [hw1];exact heap_alloc_new _ _
 have HB1:Hid (Below w.heap.size w w1):=qz (by rw [hw1];exact (Below.refl _ _).alloc (by simp) _)
 rw [← hw1]
 clear hw1
 refine (uh HF w1).mono ?_
 rintro e w2 ⟨rfl,hb2⟩
 have c4:w2.heap[w.heap.size]?=some (.cells #[.int .i64 0,.int .i64 0,.int .i64 0] 141 (0,0)):=by rw [hb2.block _ (by omega)];exact c3
 have HB2:Hid (Below w.heap.size w w2):=qz ((uh HB1).trans (hb2.mono (by omega)))
 have d0:w2.cell? ⟨w.heap.size,0,none⟩=some (.int .i64 0):=by simp only [World.cell?,c4];rfl
 have d1:w2.cell? ⟨w.heap.size,1,none⟩=some (.int .i64 0):=by simp only [World.cell?,c4];rfl
 have d2:w2.cell? ⟨w.heap.size,2,none⟩=some (.int .i64 0):=by simp only [World.cell?,c4];rfl
 have f0:∀ o,w2.frozen? ⟨w.heap.size,o,none⟩=false:=fun o=>by simp [World.frozen?,c4]
 clear HF HB1 hb2 c3 c4 hs1
 go_wp2_with fail
 refine bodyPost_ret (v:=.agg #[.int .i64 (s:Int),.int .i64 (m:Int),.int .i64 (x:Int)]) ?_ rfl ⟨rfl,(((uh HB2).setCell (Nat.le_refl _) _).setCell (Nat.le_refl _) _).setCell (Nat.le_refl _) _⟩
 rw [results_cell rfl]
 go_simp
theorem distWord_ok (v:Nat) (w:World) (h1:1≤v) (h2:v≤32768) :
  Calls Tryz.prog 108 #[.int .i64 (v:Int)] w fun e w'=>e=.returned (wordV (symD v) (v - (distOf (symD v)).1) (distOf (symD v)).2)∧Below w.heap.size w w':=by
 have HF:=qz (fun w=>find_dist v w h1 h2)
 generalize (v - (distOf (symD v)).1)=m at HF ⊢
 generalize (distOf (symD v)).2=x at HF ⊢
 generalize symD v=s at HF ⊢
 unfold wordV at HF ⊢
 go_enter Tryz.func108,Tryz.ntmps108
 go_wp2_with fail
 obtain ⟨w1,hw1⟩:∃ w1,w1=w.alloc (.cells #[.int .i64 0,.int .i64 0,.int .i64 0] 141):=⟨_,rfl⟩
 have hs1:w1.heap.size=w.heap.size+1:=by rw [hw1];simp
 have c3:w1.heap[w.heap.size]?=some (.cells #[.int .i64 0,.int .i64 0,.int .i64 0] 141 (0,0)):=by rw [hw1];exact heap_alloc_new _ _
 have HB1:Hid (Below w.heap.size w w1):=qz (by rw [hw1];exact (Below.refl _ _).alloc (by simp) _)
 rw [← hw1]
 clear hw1
 refine (uh HF w1).mono ?_
 rintro e w2 ⟨rfl,hb2⟩
 have c4:w2.heap[w.heap.size]?=some (.cells #[.int .i64 0,.int .i64 0,.int .i64 0] 141 (0,0)):=by rw [hb2.block _ (by omega)];exact c3
 have HB2:Hid (Below w.heap.size w w2):=qz ((uh HB1).trans (hb2.mono (by omega)))
 have d0:w2.cell? ⟨w.heap.size,0,none⟩=some (.int .i64 0):=by simp only [World.cell?,c4];rfl
 have d1:w2.cell? ⟨w.heap.size,1,none⟩=some (.int .i64 0):=by simp only [World.cell?,c4];rfl
 have d2:w2.cell? ⟨w.heap.size,2,none⟩=some (.int .i64 0):=by simp only [World.cell?,c4];rfl
 have f0:∀ o,w2.frozen? ⟨w.heap.size,o,none⟩=false:=fun o=>by simp [World.frozen?,c4]
 clear HF HB1 hb2 c3 c4 hs1
 go_wp2_with fail
 refine bodyPost_ret (v:=.agg #[.int .i64 (s:Int),.int .i64 (m:Int),.int .i64 (x:Int)]) ?_ rfl ⟨rfl,(((uh HB2).setCell (Nat.le_refl _) _).setCell (Nat.le_refl _) _).setCell (Nat.le_refl _) _⟩
 rw [results_cell rfl]
 go_simp
end
namespace W4
open Go.RowKit Mth Infl Defl
attribute [local go_sem ↓] wp_at_zero wp_at_succ
theorem mul64_ok (w:World):Calls Tryz.prog 94 #[.int .u64 1,.int .u64 32] w fun e w'=>e=.returned (.tuple #[.int .u64 0,.int .u64 32])∧w'=w:=by
 go_enter Tryz.func94,Tryz.ntmps94
 go_wp2_with fail
 go_ret2
 exact ⟨rfl,rfl⟩
theorem mul_ok (w:World):Calls Tryz.prog 61 #[.int .u64 1,.int .u64 32] w fun e w'=>e=.returned (.tuple #[.int .u64 0,.int .u64 32])∧w'=w:=by
 have H:=qz (mul64_ok w)
 go_enter Tryz.func61,Tryz.ntmps61
 go_wp2_with fail
 refine (uh H).mono ?_
 rintro e w' ⟨rfl,rfl⟩
 go_wp2_with fail
 go_ret2
 exact ⟨rfl,rfl⟩
def fv (n:Nat):List Value:=List.replicate n (.int .i64 5)++List.replicate (32 - n) (.int .i64 0)
theorem size3':(Tryz.prog.info? 3).map (·.size)=some 1:=by kernel_rfl
theorem repeat_ok (g0:Nat) (w:World) (h0:w.heap[g0]?=some (.cells #[.int .i64 5] 3 (0,0))) :
  Calls Tryz.prog 28 #[.slice (some ⟨g0,0,none⟩) 1 1,.int .i64 32] w fun e w'=>e=.returned (.slice (some ⟨w.heap.size,0,none⟩) 32 32)∧IntsAt w' .i64 3 w.heap.size 32 (fun _=>5)∧Below w.heap.size w w':=by
 have HM:=qz (mul_ok w)
 have hmk:∀ w,(Instr.makeSlice 45 (.int .i64 32) (.int .i64 32)).run Tryz.prog w=.ok (.slice (some ⟨w.heap.size,0,none⟩) 32 32) (w.alloc (.cells (icells .i64 32 (fun _=>0)) 3)):=fun w=>ints_made w 32 (by decide)
 have H0:=qz h0
 clear h0
 go_enter Tryz.func28,Tryz.ntmps28
 go_wp2_with fail
 refine (uh HM).mono ?_
 rintro e w' ⟨rfl,rfl⟩
 have HZ:Hid ((w'.alloc (.cells (icells .i64 32 (fun _=>0)) 3)).heap[w'.heap.size]?=some (.cells (List.replicate 32 (Value.int .i64 0)).toArray 3 (0,0))):=qz (by rw [heap_alloc_new];rfl)
 have HSRC:Hid (∀ (j:Nat) v,[Value.int .i64 5][j]?=some v→(w'.alloc (.cells (icells .i64 32 (fun _=>0)) 3)).cell? ((⟨g0,0,none⟩:Addr).add j)=some v):=qz (fun j v hj=>by
  have hg:=heap_lt (uh H0)
  have ea:(⟨g0,0,none⟩:Addr).add j=⟨g0,j,none⟩:=by by_cases hq:j=0 <;> simp [Addr.add,hq]
  rw [ea]
  simp only [World.cell?,Below.heap_alloc _ _ _ hg,uh H0]
  simpa using hj)
 have HBL:Hid (Below w'.heap.size w' (w'.alloc (.cells (icells .i64 32 (fun _=>0)) 3))):=qz ((Below.refl _ _).alloc (Nat.le_refl _) _)
 go_wp2_with (first | (refine wpList_copy_splice rfl (.tmp 31) (.tmp 32) 45 45 rfl 3 Tryz.underlying45 size3' _ _ _ _ _ _ (by rfl) (by rfl) w'.heap.size 0 _ 3 (uh HZ) [.int .i64 5] rfl (fun _=>⟨rfl,_,rfl,uh HSRC⟩) (by simp) (by intro v hv;simp at hv;subst hv;rfl) w'.heap.size w' (uh HBL) (Nat.le_refl _) ?_;intro w2 h2 hb2;have H2:Hid (w2.heap[w'.heap.size]?=some (.cells (fv 1).toArray 3 (0,0))):=qz (by rw [uh h2];rfl);have HB2:=qz hb2;clear h2 hb2))
 obtain ⟨g,hg⟩:∃ g,g=w'.heap.size:=⟨_,rfl⟩
 have HG:=qz hg
 rw [← hg] at H2 ⊢
 clear HM HZ HSRC HBL hmk hg
 go_loopg [8] 31 (fun gk nv ws=>∃ n:Nat,gk=32 - n∧nv=.int .i64 (n:Int)∧(n=32∨1≤n∧n≤16)∧Hid (n=1∨n=2∨n=4∨n=8∨n=16∨n=32)∧Hid (ws.heap[g]?=some (.cells (fv n).toArray 3 (0,0)))∧Hid (Below w'.heap.size w' ws))
 case atStart=>exact ⟨1,by omega,rfl,.inr ⟨by omega,by omega⟩,qz (.inl rfl),H2,HB2⟩
 case round =>
  obtain ⟨n,rfl,rfl,hn,hn6,hrow,hbel⟩:=hrel
  clear H2 HB2
  rcases hn with rfl | ⟨hn1,hn2⟩
  ·go_wp2_with fail
   go_ret
   refine ⟨by rw [uh HG];rfl,?_,uh hbel⟩
   rw [← uh HG]
   unfold IntsAt
   rw [uh hrow]
   rfl
  ·have HNEXT:Hid (splice (fv n) n (List.replicate n (Value.int .i64 5))=fv (n+n)):=qz (by
    rcases uh hn6 with rfl | rfl | rfl | rfl | rfl | rfl <;> first | rfl | omega)
   have HSR:Hid (∀ q (j:Nat) v,(List.replicate n (Value.int .i64 5))[j]?=some v→(wr.drewN q).cell? ((⟨g,0,none⟩:Addr).add j)=some v):=qz (fun q j v hj=>by
    have ea:(⟨g,0,none⟩:Addr).add j=⟨g,j,none⟩:=by by_cases hq:j=0 <;> simp [Addr.add,hq]
    rw [ea]
    have hjn:j<n:=by
     rcases Nat.lt_or_ge j n with h | h
     ·exact h
     ·rw [List.getElem?_eq_none (by simp;omega)] at hj;cases hj
    show wr.cell? ⟨g,j,none⟩=some v
    simp only [World.cell?,uh hrow]
    unfold fv
    simp only [List.getElem?_toArray]
    rw [List.getElem?_append_left (by simpa using hjn)]
    exact hj)
   have hcp:(Builtin.copy_ #[45,45] 3 #[.slice (some ⟨g,n,none⟩) (32 - n) (32 - n),.slice (some ⟨g,0,none⟩) n 32]).run Tryz.prog wr.drew=.ok (.int .i64 (n:Int)) (wr.drew.setRow g (fv (n+n)).toArray):=by
    have h:=run_copy_row (P:=Tryz.prog) wr.drew 45 45 3 3 g n (32 - n) (32 - n) ⟨g,0,none⟩ n 32 (fv n).toArray 3 (List.replicate n (.int .i64 5)) Tryz.underlying45 size3' (uh hrow) (by rw [List.length_replicate];exact (Nat.min_eq_left (by omega)).symm) (uh HSR 1) (by simp [fv];omega) (by intro v hv;rw [List.mem_replicate] at hv;rw [hv.2];rfl)
    have e:=uh HNEXT
    unfold splice at e
    simp only [List.length_replicate] at h e
    refine h.trans ?_
    rw [← e,List.append_assoc]
    rfl
   have e1:(n:Int)<32:=by omega
   have e2:¬ 32=n:=by omega
   have e3:(n:Int)≤32:=by omega
   have e4:((n+n:Nat):Int)=(n:Int)+(n:Int):=by omega
   have e5:IntKind.i64.wrap ((n:Int)+(n:Int))=(n:Int)+(n:Int):=IntWalk.i64_in _ (by omega)
   have HN6:=hn6
   clear HSR HNEXT hn6
   go_wp2_with fail
   refine wp_region_noPanic ?_
   refine wp_region_held_drew (S:=fun _=>True) (by kernel_rfl) True.intro (fun hHeld=>?_)
   refine hT 0 38 rfl rfl hHeld nPp (v:=?_) (fun x hSx=>?_) ?_
   rotate_left 1
   ·go_simp <;> with_reducible rfl
   simp only [sA,sB]
   refine hT 1 39 rfl rfl hHeld nPp (v:=?_) (fun x hSx=>?_) ?_
   rotate_left 1
   ·go_simp <;> with_reducible rfl
   simp only [sA,sB]
   refine hT 2 40 rfl rfl hHeld nPp (v:=?_) (fun x hSx=>?_) ?_
   rotate_left 1
   ·go_simp <;> with_reducible rfl
   simp only [sA,sB]
   refine hT 3 41 rfl rfl hHeld nPp (v:=?_) (fun x hSx=>?_) ?_
   rotate_left 1
   ·go_simp <;> with_reducible rfl
   simp only [sA,sB]
   refine hT 4 42 rfl rfl hHeld nPp (v:=?_) (fun x hSx=>?_) ?_
   rotate_left 1
   ·go_simp <;> with_reducible rfl
   simp only [sA,sB]
   refine hT 5 43 rfl rfl hHeld nPp (v:=?_) (fun x hSx=>?_) ?_
   rotate_left 1
   ·go_simp <;> with_reducible rfl
   simp only [sA,sB]
   refine hT 6 44 rfl rfl hHeld nPp (v:=?_) (fun x hSx=>?_) ?_
   rotate_left 1
   ·go_simp <;> with_reducible rfl
   simp only [sA,sB]
   refine held_one 7 45 (by kernel_rfl) rfl rfl (by rfl) (v:=.int .i64 (n:Int)) (w':=wr.drew.setRow g (fv (n+n)).toArray) ?_ True.intro ?_
   ·go_simp <;> with_reducible rfl
   simp only [sA,sB]
   refine held_one 8 46 (by kernel_rfl) rfl rfl (by rfl) (v:=.int .i64 ((n+n:Nat):Int)) (w':=wr.drew.setRow g (fv (n+n)).toArray) ?_ True.intro ?_
   ·go_simp <;> with_reducible rfl
   simp only [sA,sB]
   refine held_one 9 8 (by kernel_rfl) rfl rfl (by rfl) (v:=.int .i64 ((n+n:Nat):Int)) (w':=wr.drew.setRow g (fv (n+n)).toArray) ?_ True.intro ?_
   ·go_simp <;> with_reducible rfl
   simp only [sA,sB]
   refine wpAnyH_done (by kernel_rfl) ?_ _
   refine NoPanic.normal ?_
   have HR2:Hid ((wr.drew.setRow g (fv (n+n)).toArray).heap[g]?=some (.cells (fv (n+n)).toArray 3 (0,0))):=qz (setRow_heap wr.drew g _ _ 3 _ (uh hrow))
   have HB2:Hid (Below w'.heap.size w' (wr.drew.setRow g (fv (n+n)).toArray)):=qz (below_setRow (below_drewN (uh hbel) 1) (by have:=uh HG;omega) _)
   go_wp2_with fail
   go_roundg (32 - (n+n))
   case measure=>omega
   case rel=>exact ⟨n+n,rfl,rfl,(by have:=uh HN6;omega),qz (by have:=uh HN6;omega),HR2,HB2⟩
structure TwoCodes (l1 l2:List Nat) (w:World) (c1 c2 lo hi:Nat):Prop where
 a:∃ x y,Code l1 w c1 x y∧lo≤x∧y≤hi
 b:∃ x y,Code l2 w c2 x y∧lo≤x∧y≤hi
theorem TwoCodes.keep {l1 l2:List Nat} {w w':World} {c1 c2 lo hi:Nat} (h:TwoCodes l1 l2 w c1 c2 lo hi) (hk:∀ k,lo≤k→k<hi→w'.heap[k]?=w.heap[k]?):TwoCodes l1 l2 w' c1 c2 lo hi:=by
 obtain ⟨⟨x,y,h1,h2,h3⟩,⟨x',y',h1',h2',h3'⟩⟩:=h
 exact ⟨⟨x,y,h1.keep fun k hk1 hk2=>hk k (by omega) (by omega),h2,h3⟩,⟨x',y',h1'.keep fun k hk1 hk2=>hk k (by omega) (by omega),h2',h3'⟩⟩
theorem newCodes_ok (l1 l2:List Nat) (v1 v2:Value) (w:World) (h1:ReadsN w v1 l1) (h2:ReadsN w v2 l2) (hn1:1≤l1.length∧l1.length≤65536) (hn2:1≤l2.length∧l2.length≤65536) (hl1:∀ l∈l1,l≤15) (hl2:∀ l∈l2,l≤15) (ho1:okSum l1 true) (ho2:okSum l2 true) :
  Calls Tryz.prog 26 #[v1,v2] w fun e w'=>∃ c1 c2,e=.returned (.agg #[.pointer (some ⟨c1,0,none⟩),.pointer (some ⟨c2,0,none⟩)])∧TwoCodes l1 l2 w' c1 c2 w.heap.size w'.heap.size∧Below w.heap.size w w':=by
 have HN1:Hid (∀ W,Below w.heap.size w W→Calls Tryz.prog 60 #[v1,.int .i64 15,.bool true] W fun e w'=>∃ cp,e=.returned (.tuple #[.pointer (some ⟨cp,0,none⟩),.int .i64 0])∧Code l1 w' cp W.heap.size w'.heap.size∧Below W.heap.size W w'):=qz (fun W hb=>by
  refine (rnew l1 15 true v1 W (h1.stays hb) (by decide) hn1 hl1).mono ?_
  rintro e w' ⟨hb,h | ⟨_,cp,h3,h4⟩⟩
  ·rw [ce_of ho1] at h;cases h.1
  ·exact ⟨cp,h3,h4,hb⟩)
 have HN2:Hid (∀ W,Below w.heap.size w W→Calls Tryz.prog 60 #[v2,.int .i64 15,.bool true] W fun e w'=>∃ cp,e=.returned (.tuple #[.pointer (some ⟨cp,0,none⟩),.int .i64 0])∧Code l2 w' cp W.heap.size w'.heap.size∧Below W.heap.size W w'):=qz (fun W hb=>by
  refine (rnew l2 15 true v2 W (h2.stays hb) (by decide) hn2 hl2).mono ?_
  rintro e w' ⟨hb,h | ⟨_,cp,h3,h4⟩⟩
  ·rw [ce_of ho2] at h;cases h.1
  ·exact ⟨cp,h3,h4,hb⟩)
 clear h1 h2 hn1 hn2 hl1 hl2 ho1 ho2
 go_enter Tryz.func26,Tryz.ntmps26
 go_wp2_with fail
 obtain ⟨W1,hW1⟩:∃ W1,W1=w.alloc (.cells #[.pointer none,.pointer none] 39):=⟨_,rfl⟩
 have HB1:Hid (Below w.heap.size w W1):=qz (by rw [hW1];exact (Below.refl _ _).alloc (Nat.le_refl _) _)
 have HX1:Hid (W1.heap[w.heap.size]?=some (.cells #[.pointer none,.pointer none] 39 (0,0))):=qz (by rw [hW1];exact heap_alloc_new _ _)
 have hs1:W1.heap.size=w.heap.size+1:=by rw [hW1];simp
 rw [← hW1]
 clear hW1
 refine (uh HN1 W1 (uh HB1)).mono ?_
 rintro e W2 ⟨c1,rfl,q1,b1⟩
 have x2:W2.heap[w.heap.size]?=some (.cells #[.pointer none,.pointer none] 39 (0,0)):=by rw [b1.block _ (by omega)];exact uh HX1
 have d0:W2.cell? ⟨w.heap.size,0,none⟩=some (.pointer none):=by simp [World.cell?,x2]
 have d1:W2.cell? ⟨w.heap.size,1,none⟩=some (.pointer none):=by simp [World.cell?,x2]
 have f0:∀ o,W2.frozen? ⟨w.heap.size,o,none⟩=false:=fun o=>by simp [World.frozen?,x2]
 have hs2:=b1.size
 have HC1:Hid (Code l1 W2 c1 W1.heap.size W2.heap.size):=qz q1
 have HB2:Hid (Below w.heap.size w (W2.setCell ⟨w.heap.size,0,none⟩ (.pointer (some ⟨c1,0,none⟩)))):=qz (((uh HB1).trans (b1.mono (by omega))).setCell (Nat.le_refl _) _)
 have HX2:Hid ((W2.setCell ⟨w.heap.size,0,none⟩ (.pointer (some ⟨c1,0,none⟩))).heap[w.heap.size]?=some (.cells #[.pointer (some ⟨c1,0,none⟩),.pointer none] 39 (0,0))):=qz (by rw [heap_setCell_same _ _ 0 _ _ _ x2];rfl)
 have HC2:Hid (Code l1 (W2.setCell ⟨w.heap.size,0,none⟩ (.pointer (some ⟨c1,0,none⟩))) c1 W1.heap.size W2.heap.size):=qz (q1.keep fun k h1 h2=>heap_setCell_other _ _ _ _ (by show k≠w.heap.size;omega))
 have HS3:Hid ((W2.setCell ⟨w.heap.size,0,none⟩ (.pointer (some ⟨c1,0,none⟩))).heap.size=W2.heap.size):=qz (by simp)
 clear q1 b1 HC1
 go_wp2_with fail
 generalize W2.setCell ⟨w.heap.size,0,none⟩ (.pointer (some ⟨c1,0,none⟩))=W3 at HB2 HX2 HC2 HS3 ⊢
 refine (uh HN2 W3 (uh HB2)).mono ?_
 rintro e W4 ⟨c2,rfl,q2,b2⟩
 have x4:W4.heap[w.heap.size]?=some (.cells #[.pointer (some ⟨c1,0,none⟩),.pointer none] 39 (0,0)):=by rw [b2.block _ (by have:=uh HS3;omega)];exact uh HX2
 have g0:W4.cell? ⟨w.heap.size,0,none⟩=some (.pointer (some ⟨c1,0,none⟩)):=by simp [World.cell?,x4]
 have g1:W4.cell? ⟨w.heap.size,1,none⟩=some (.pointer none):=by simp [World.cell?,x4]
 have f1:∀ o,W4.frozen? ⟨w.heap.size,o,none⟩=false:=fun o=>by simp [World.frozen?,x4]
 have hs4:=b2.size
 have hs3:=uh HS3
 have HK:Hid (∀ k,k≠w.heap.size→(((W4.setCell ⟨w.heap.size,1,none⟩ (.pointer (some ⟨c2,0,none⟩))).setCell ⟨w.heap.size,0,none⟩ (.pointer (some ⟨c1,0,none⟩))).setCell ⟨w.heap.size,1,none⟩ (.pointer (some ⟨c2,0,none⟩))).heap[k]?=W4.heap[k]?):=qz (fun k hk=>by rw [heap_setCell_other _ _ _ _ (by exact hk),heap_setCell_other _ _ _ _ (by exact hk),heap_setCell_other _ _ _ _ (by exact hk)])
 have HT:Hid (TwoCodes l1 l2 (((W4.setCell ⟨w.heap.size,1,none⟩ (.pointer (some ⟨c2,0,none⟩))).setCell ⟨w.heap.size,0,none⟩ (.pointer (some ⟨c1,0,none⟩))).setCell ⟨w.heap.size,1,none⟩ (.pointer (some ⟨c2,0,none⟩))) c1 c2 w.heap.size (((W4.setCell ⟨w.heap.size,1,none⟩ (.pointer (some ⟨c2,0,none⟩))).setCell ⟨w.heap.size,0,none⟩ (.pointer (some ⟨c1,0,none⟩))).setCell ⟨w.heap.size,1,none⟩ (.pointer (some ⟨c2,0,none⟩))).heap.size):=qz (by
  refine ⟨⟨W1.heap.size,W2.heap.size,?_,by omega,by simp;omega⟩,⟨W3.heap.size,W4.heap.size,?_,by omega,by simp⟩⟩
  ·refine ((uh HC2).keep fun k h1 h2=>b2.block k (by omega)).keep fun k h1 h2=>uh HK k (by omega)
  ·exact q2.keep fun k h1 h2=>uh HK k (by omega))
 have HB4:Hid (Below w.heap.size w (((W4.setCell ⟨w.heap.size,1,none⟩ (.pointer (some ⟨c2,0,none⟩))).setCell ⟨w.heap.size,0,none⟩ (.pointer (some ⟨c1,0,none⟩))).setCell ⟨w.heap.size,1,none⟩ (.pointer (some ⟨c2,0,none⟩)))):=qz (((((uh HB2).trans (b2.mono (by omega))).setCell (Nat.le_refl _) _).setCell (Nat.le_refl _) _).setCell (Nat.le_refl _) _)
 clear q2 b2 HC2 HX2 HB2 d0 d1 f0 x2 x4
 go_wp2_with fail
 refine bodyPost_ret (v:=.agg #[.pointer (some ⟨c1,0,none⟩),.pointer (some ⟨c2,0,none⟩)]) ?_ rfl ⟨c1,c2,rfl,uh HT,uh HB4⟩
 rw [results_cell rfl]
 go_simp
theorem fixedL_ok:okSum fixedL true∧okSum fixedD true:=⟨.inl fixedL_full,.inl fixedD_full⟩
theorem fixedCodes_gen (l1 l2:List Nat) (w:World) (h1:Hid (l1=fixedL)) (h2:Hid (l2=fixedD)) :
  Calls Tryz.prog 11 #[] w fun e w'=>∃ c1 c2,e=.returned (.agg #[.pointer (some ⟨c1,0,none⟩),.pointer (some ⟨c2,0,none⟩)])∧TwoCodes l1 l2 w' c1 c2 w.heap.size w'.heap.size∧Below w.heap.size w w':=by
 go_enter Tryz.func11,Tryz.ntmps11
 go_wp2_with fail
 obtain ⟨W1,hW1⟩:∃ W1,W1=w.alloc (.cells #[.pointer none,.pointer none] 39):=⟨_,rfl⟩
 have HB1:Hid (Below w.heap.size w W1):=qz (by rw [hW1];exact (Below.refl _ _).alloc (Nat.le_refl _) _)
 have x1:W1.heap[w.heap.size]?=some (.cells #[.pointer none,.pointer none] 39 (0,0)):=by rw [hW1];exact heap_alloc_new _ _
 have hs1:w.heap.size<W1.heap.size:=by rw [hW1];simp
 rw [← hW1]
 clear hW1
 refine (fixed_ok W1).mono ?_
 rintro e W2 ⟨rfl,a2,b2⟩
 have HR2:Hid (ReadsN W2 (.slice (some ⟨W1.heap.size,0,none⟩) 288 288) l1):=qz (by rw [uh h1];exact ints_reads a2 fixedL fixedL_is)
 have x2:W2.heap[w.heap.size]?=some (.cells #[.pointer none,.pointer none] 39 (0,0)):=by rw [b2.block _ (by omega)];exact x1
 have HB2:Hid (Below w.heap.size w W2):=qz ((uh HB1).trans (b2.mono (by omega)))
 have hs2:=b2.size
 clear a2 b2 HB1 x1
 go_wp2_with fail
 obtain ⟨W3,hW3⟩:∃ W3,W3=W2.alloc (.cells #[.int .i64 5] 3):=⟨_,rfl⟩
 have hs3:W2.heap.size<W3.heap.size:=by rw [hW3];simp
 have x3:W3.heap[w.heap.size]?=some (.cells #[.pointer none,.pointer none] 39 (0,0)):=by rw [hW3,Below.heap_alloc _ _ _ (by omega)];exact x2
 have y3:W3.heap[W2.heap.size]?=some (.cells #[.int .i64 5] 3 (0,0)):=by rw [hW3];exact heap_alloc_new _ _
 have HB23:Hid (Below W2.heap.size W2 W3):=qz (by rw [hW3];exact (Below.refl _ _).alloc (Nat.le_refl _) _)
 rw [← hW3]
 clear hW3 x2
 refine (repeat_ok W2.heap.size W3 y3).mono ?_
 rintro e W4 ⟨rfl,a4,b4⟩
 have HR4:Hid (ReadsN W4 (.slice (some ⟨W3.heap.size,0,none⟩) 32 32) l2):=qz (by rw [uh h2];exact ints_reads a4 fixedD (by decide))
 have HR4b:Hid (ReadsN W4 (.slice (some ⟨W1.heap.size,0,none⟩) 288 288) l1):=qz (((uh HR2).stays (uh HB23)).stays b4)
 have x4:W4.heap[w.heap.size]?=some (.cells #[.pointer none,.pointer none] 39 (0,0)):=by rw [b4.block _ (by omega)];exact x3
 have HB4:Hid (Below w.heap.size w W4):=qz (((uh HB2).trans ((uh HB23).mono (uh HB2).size)).trans (b4.mono (by omega)))
 have hs4:=b4.size
 clear a4 b4 HB2 HB23 HR2 x3 y3
 have HNC:=qz (newCodes_ok l1 l2 _ _ W4 (uh HR4b) (uh HR4) (by rw [uh h1,fixedL_len];decide) (by rw [uh h2,fixedD_len];decide) (by rw [uh h1];exact fixedL_le) (by rw [uh h2];exact fixedD_le) (by rw [uh h1];exact fixedL_ok.1) (by rw [uh h2];exact fixedL_ok.2))
 go_wp2_with fail
 refine (uh HNC).mono ?_
 rintro e W5 ⟨c1,c2,rfl,t5,b5⟩
 have x5:W5.heap[w.heap.size]?=some (.cells #[.pointer none,.pointer none] 39 (0,0)):=by rw [b5.block _ (by omega)];exact x4
 have g0:W5.cell? ⟨w.heap.size,0,none⟩=some (.pointer none):=by simp [World.cell?,x5]
 have g1:W5.cell? ⟨w.heap.size,1,none⟩=some (.pointer none):=by simp [World.cell?,x5]
 have f1:∀ o,W5.frozen? ⟨w.heap.size,o,none⟩=false:=fun o=>by simp [World.frozen?,x5]
 have hs5:=b5.size
 have HT:Hid (TwoCodes l1 l2 ((W5.setCell ⟨w.heap.size,0,none⟩ (.pointer (some ⟨c1,0,none⟩))).setCell ⟨w.heap.size,1,none⟩ (.pointer (some ⟨c2,0,none⟩))) c1 c2 w.heap.size ((W5.setCell ⟨w.heap.size,0,none⟩ (.pointer (some ⟨c1,0,none⟩))).setCell ⟨w.heap.size,1,none⟩ (.pointer (some ⟨c2,0,none⟩))).heap.size):=qz (by
  have t6:=t5.keep (w':=(W5.setCell ⟨w.heap.size,0,none⟩ (.pointer (some ⟨c1,0,none⟩))).setCell ⟨w.heap.size,1,none⟩ (.pointer (some ⟨c2,0,none⟩))) (fun k h1 h2=>by rw [heap_setCell_other _ _ _ _ (by show k≠w.heap.size;omega),heap_setCell_other _ _ _ _ (by show k≠w.heap.size;omega)])
  obtain ⟨⟨x,y,q1,q2,q3⟩,⟨x',y',q1',q2',q3'⟩⟩:=t6
  exact ⟨⟨x,y,q1,by omega,by simpa using q3⟩,⟨x',y',q1',by omega,by simpa using q3'⟩⟩)
 have HB6:Hid (Below w.heap.size w ((W5.setCell ⟨w.heap.size,0,none⟩ (.pointer (some ⟨c1,0,none⟩))).setCell ⟨w.heap.size,1,none⟩ (.pointer (some ⟨c2,0,none⟩)))):=qz ((((uh HB4).trans (b5.mono (by omega))).setCell (Nat.le_refl _) _).setCell (Nat.le_refl _) _)
 clear t5 b5 x5 x4 HB4 HR4 HR4b HNC
 go_wp2_with fail
 refine bodyPost_ret (v:=.agg #[.pointer (some ⟨c1,0,none⟩),.pointer (some ⟨c2,0,none⟩)]) ?_ rfl ⟨c1,c2,rfl,uh HT,uh HB6⟩
 rw [results_cell rfl]
 go_simp
theorem fixedCodes_ok (w:World) :
  Calls Tryz.prog 11 #[] w fun e w'=>∃ c1 c2,e=.returned (.agg #[.pointer (some ⟨c1,0,none⟩),.pointer (some ⟨c2,0,none⟩)])∧TwoCodes fixedL fixedD w' c1 c2 w.heap.size w'.heap.size∧Below w.heap.size w w' :=
 fixedCodes_gen fixedL fixedD w (qz rfl) (qz rfl)
end W4
namespace W4
open Go.RowKit Mth Infl Defl
attribute [local go_sem ↓] wp_at_zero wp_at_succ
def wayCells:Array Value:=#[.func (.func 20) #[] #[],.func (.func 21) #[] #[],.func (.func 22) #[] #[],.func (.func 23) #[] #[],.func (.func 24) #[] #[],.func (.func 25) #[] #[]]
def wayV (g kind:Nat):Value:=if kind=0 then .slice (some ⟨g,0,none⟩) 3 3 else .slice (some ⟨g,(kind - 1)*2,none⟩) 1 (4 - kind)
theorem waysOf_ok (kind:Nat) (w:World) (hk:kind≤3) :
  Calls Tryz.prog 10 #[.int .i64 (kind:Int)] w fun e w'=>e=.returned (wayV w.heap.size kind)∧w'=w.alloc (.cells wayCells 59):=by
 unfold wayV wayCells
 have hc:kind=0∨kind=1∨kind=2∨kind=3:=by omega
 rcases hc with rfl | rfl | rfl | rfl
 all_goals
  go_enter Tryz.func10,Tryz.ntmps10
  go_wp2_with fail
  go_ret
  exact ⟨rfl,rfl⟩
def PackAt (w:World) (pp pb kind gw c1 c2:Nat):Prop:=w.heap[pp]?=some (.cells #[.pointer (some ⟨pb,0,none⟩),.int .i64 (kind:Int),wayV gw kind,.pointer (some ⟨c1,0,none⟩),.pointer (some ⟨c2,0,none⟩)] 42 (0,0))∧w.heap[gw]?=some (.cells wayCells 59 (0,0))
end W4
namespace W4
open Go.RowKit Mth Infl Defl
attribute [local go_sem ↓] wp_at_zero wp_at_succ
theorem Safe.step {x x':World} {v0 v:Value} {pb k:Nat} (h:Safe x v0 pb k) (hc:Chg pb v0 x v x'):Safe x' v pb k:=by
 refine ⟨Nat.lt_of_lt_of_le h.1 hc.size,h.2.1,fun e=>?_⟩
 rcases hc.lies with e' | ⟨g,e',hg⟩
 ·rw [e'] at e;exact h.2.2 e
 ·rw [e'] at e;injection e with e;have:=h.1;omega
structure Env (w x:World) (kind pp pb gw c1 c2 lo hi:Nat) (v0:Value):Prop where
 pack:PackAt x pp pb kind gw c1 c2
 bel:Below w.heap.size w x
 wpb:w.heap.size≤pb
 spp:Safe x v0 pb pp
 sgw:Safe x v0 pb gw
 codes:TwoCodes fixedL fixedD x c1 c2 lo hi
 shi:∀ k,lo≤k→k<hi→Safe x v0 pb k
 row:∀ g,v0.ownBlock=some g→w.heap.size≤g
theorem Env.step {w x x':World} {kind pp pb gw c1 c2 lo hi:Nat} {v0 v:Value} (h:Env w x kind pp pb gw c1 c2 lo hi v0) (hc:Chg pb v0 x v x'):Env w x' kind pp pb gw c1 c2 lo hi v where
 pack:=⟨by rw [hc.keep pp h.spp.1 h.spp.2.1 h.spp.2.2];exact h.pack.1,by rw [hc.keep gw h.sgw.1 h.sgw.2.1 h.sgw.2.2];exact h.pack.2⟩
 bel:=h.bel.trans ⟨hc.os,hc.tape,hc.output,hc.size,fun k hk=>hc.keep k (Nat.lt_of_lt_of_le hk h.bel.size) (by have:=h.wpb;omega) (fun e=>by have:=h.row k e;omega)⟩
 wpb:=h.wpb
 spp:=h.spp.step hc
 sgw:=h.sgw.step hc
 codes:=h.codes.keep fun k h1 h2=>hc.keep k (h.shi k h1 h2).1 (h.shi k h1 h2).2.1 (h.shi k h1 h2).2.2
 shi:=fun k h1 h2=>(h.shi k h1 h2).step hc
 row:=fun g e=>by
  rcases hc.lies with e' | ⟨g',e',hg⟩
  ·rw [e'] at e;exact h.row g e
  ·rw [e'] at e;injection e with e;have:=h.bel.size;omega
def PutIs (kind:Nat) (zs:List Nat) (k:Nat) (tk:Nat→Nat→List T) (pl:List T→List Nat × List Nat × List Nat) (a:Option Addr) (c:Nat) (w:World):Prop :=
 ∀ (x:World) (v0:Value) (m f:Nat) (L:List Bool) (pp pb gw c1 c2 lo hi fr e:Nat) (last:Bool),Env w x kind pp pb gw c1 c2 lo hi v0→WOk x pb false v0 m L f→f≤7→L.length≤700000000000000→e=ende zs k fr→last=decide (zs.length≤fr+k)→(fr<zs.length∨fr=0) →
  Calls Tryz.prog 12 #[.pointer (some ⟨pp,0,none⟩),.slice a e c,.int .i64 (fr:Int),.bool last] x fun en w'=>en=.returned (.tuple #[])∧WrAt x v0 pb (L++ownB zs k kind tk pl fr L.length) w'
structure DfAt (zs:List Nat) (k kind:Nat) (tk:Nat→Nat→List T) (pl:List T→List Nat × List Nat × List Nat) (w x:World) (pp pb gw c1 c2 lo hi fr:Nat) (L:List Bool):Prop where
 at_:∃ v m f,WOk x pb false v m L f∧f≤7∧Env w x kind pp pb gw c1 c2 lo hi v
 on:∃ F,deflF zs k kind tk pl (zs.length+1) 0 []=deflF zs k kind tk pl (F+1) fr L∧zs.length≤fr+F
 le:L.length≤40000*fr
 pl:fr<zs.length∨fr=0
theorem DfAt.next {zs:List Nat} {k kind:Nat} {tk:Nat→Nat→List T} {pl:List T→List Nat × List Nat × List Nat} {w x x':World} {pp pb gw c1 c2 lo hi fr:Nat} {L:List Bool} {v0:Value} {m f:Nat}
  (h:DfAt zs k kind tk pl w x pp pb gw c1 c2 lo hi fr L) (hk:1≤k) (hlt:fr+k<zs.length) (hl:(ownB zs k kind tk pl fr L.length).length≤40000*k) (he:Env w x kind pp pb gw c1 c2 lo hi v0) (hw:WrAt x v0 pb (L++ownB zs k kind tk pl fr L.length) x') :
  DfAt zs k kind tk pl w x' pp pb gw c1 c2 lo hi (fr+k) (L++ownB zs k kind tk pl fr L.length):=by
 obtain ⟨v,m',f',k1,k2,k3⟩:=hw
 refine ⟨⟨v,m',f',k1,k2,he.step k3⟩,?_,?_,.inl hlt⟩
 ·obtain ⟨F,h1,h2⟩:=h.on
  obtain ⟨F',rfl⟩:∃ F',F=F'+1:=⟨F - 1,by omega⟩
  refine ⟨F',?_,by omega⟩
  rw [h1,deflF,if_neg (by omega)]
 ·have:=h.le
  rw [List.length_append,Nat.mul_add]
  omega
theorem deflate_gen (kind:Nat) (zs:List Nat) (a:Option Addr) (c k:Nat) (tk:Nat→Nat→List T) (pl:List T→List Nat × List Nat × List Nat) (w:World) (hk1:1≤k) (hk2:k≤65535) (hkind:kind≤3) (hn:zs.length≤10000000) (hc:zs.length≤c) (ha:0<zs.length→∃ b off,a=some ⟨b,off,none⟩)
  (hput:PutIs kind zs k tk pl a c w) (hown:∀ fr p,fr<zs.length∨fr=0→(ownB zs k kind tk pl fr p).length≤40000*k) :
  Calls Tryz.prog 6 #[.slice a zs.length c,.int .i64 (k:Int),.int .i64 (kind:Int)] w fun e w'=>∃ g L,L=deflF zs k kind tk pl (zs.length+1) 0 []∧e=.returned (.tuple #[.slice (some ⟨g,0,none⟩) ((L.length+7) / 8) ((L.length+7) / 8),.int .i64 0])∧w'.heap[g]?=some (.cells ((pk false ((L.length+7) / 8) L).map bv).toArray 5 (0,0))∧w.heap.size≤g∧Below w.heap.size w w':=by
 have HPUT:=qz hput
 have HOWN:=qz hown
 obtain ⟨n,hN⟩:∃ n,n=zs.length:=⟨_,rfl⟩
 have HN:=qz hN
 rw [← hN] at hn hc ha ⊢
 clear hput hown hN
 have t1:decide ((k:Int)<1)=false:=by simp;omega
 have t2:decide (65535<(k:Int))=false:=by simp;omega
 have t3:¬ (k:Int)<1:=by omega
 have t4:¬ 65535<(k:Int):=by omega
 have t5:decide ((kind:Int)<0)=false:=by simp
 have t6:decide (3<(kind:Int))=false:=by simp;omega
 have t7:¬ (kind:Int)<0:=by omega
 have t8:¬ 3<(kind:Int):=by omega
 go_enter Tryz.func6,Tryz.ntmps6
 go_wp2_with fail
 refine (new_any false w).mono ?_
 rintro e w1 ⟨rfl,h1⟩
 have HW1:=qz h1
 have hs1:w1.heap.size=w.heap.size+1:=by rw [h1];simp
 have HWO1:Hid (WOk w1 w.heap.size false (.slice none 0 0) 0 [] 0):=qz (by rw [h1];exact new_ok false w)
 have HB1:Hid (Below w.heap.size w w1):=qz (by rw [h1];exact (Below.refl _ _).alloc (Nat.le_refl _) _)
 have HS1:=qz hs1
 clear h1 hs1 HW1
 go_wp2_with fail
 refine (waysOf_ok kind w1 hkind).mono ?_
 rintro e w2 ⟨rfl,h2⟩
 have HB2:Hid (Below w1.heap.size w1 w2):=qz (by rw [h2];exact (Below.refl _ _).alloc (Nat.le_refl _) _)
 have HG2:Hid (w2.heap[w1.heap.size]?=some (.cells wayCells 59 (0,0))):=qz (by rw [h2];exact heap_alloc_new _ _)
 have HS2:Hid (w2.heap.size=w1.heap.size+1):=qz (by rw [h2];simp)
 clear h2
 obtain ⟨wa,wl,wcp,hwv⟩:∃ wa wl wcp,wayV w1.heap.size kind=.slice wa wl wcp:=by unfold wayV;split <;> exact ⟨_,_,_,rfl⟩
 have HWV:=qz hwv
 rw [hwv]
 clear hwv
 go_wp2_with fail
 refine (fixedCodes_ok w2).mono ?_
 rintro e w3 ⟨c1,c2,rfl,tc,b3⟩
 have HT3:=qz tc
 have HB3:=qz b3
 clear tc b3
 obtain ⟨w4,hw4⟩:∃ w4,w4=w3.alloc (.cells #[.pointer (some ⟨w.heap.size,0,none⟩),.int .i64 (kind:Int),.slice wa wl wcp,.pointer (some ⟨c1,0,none⟩),.pointer (some ⟨c2,0,none⟩)] 42):=⟨_,rfl⟩
 have HS34:Hid (w4.heap.size=w3.heap.size+1):=qz (by rw [hw4];simp)
 have HB4:Hid (Below w3.heap.size w3 w4):=qz (by rw [hw4];exact (Below.refl _ _).alloc (Nat.le_refl _) _)
 have HENV:Hid (Env w w4 kind w3.heap.size w.heap.size w1.heap.size c1 c2 w2.heap.size w3.heap.size (.slice none 0 0)):=qz (by
  have e1:=uh HS1
  have e2:=uh HS2
  have e3:=(uh HB3).size
  have e4:=uh HS34
  refine ⟨⟨?_,?_⟩,?_,Nat.le_refl _,⟨by omega,by omega,by simp [Value.ownBlock]⟩,⟨by omega,by omega,by simp [Value.ownBlock]⟩,?_,fun q q1 q2=>⟨by omega,by omega,by simp [Value.ownBlock]⟩,fun g e=>by simp [Value.ownBlock] at e⟩
  ·rw [hw4,heap_alloc_new,← uh HWV]
  ·rw [(uh HB4).block _ (by omega),(uh HB3).block _ (by omega)];exact uh HG2
  ·exact (((uh HB1).trans ((uh HB2).mono (by omega))).trans ((uh HB3).mono (by omega))).trans ((uh HB4).mono (by omega))
  ·exact (uh HT3).keep fun q q1 q2=>(uh HB4).block q (by omega))
 have HWO4:Hid (WOk w4 w.heap.size false (.slice none 0 0) 0 [] 0):=qz ((((uh HWO1).below (uh HB2)).below (uh HB3)).below (uh HB4))
 go_wp2_with fail
 rw [← hw4]
 obtain ⟨pp,hpp⟩:∃ pp,pp=w3.heap.size:=⟨_,rfl⟩
 obtain ⟨pb,hpb⟩:∃ pb,pb=w.heap.size:=⟨_,rfl⟩
 obtain ⟨gw,hgw⟩:∃ gw,gw=w1.heap.size:=⟨_,rfl⟩
 obtain ⟨lo,hlo⟩:∃ lo,lo=w2.heap.size:=⟨_,rfl⟩
 obtain ⟨hi,hhi⟩:∃ hi,hi=w3.heap.size:=⟨_,rfl⟩
 have HDF:Hid (DfAt zs k kind tk pl w w4 pp pb gw c1 c2 lo hi 0 []):=qz (by
  rw [hpp,hpb,hgw,hlo,hhi]
  exact ⟨⟨_,_,_,uh HWO4,by omega,uh HENV⟩,⟨zs.length,rfl,by omega⟩,by simp,.inr rfl⟩)
 rw [← hpp,← hpb]
 clear hw4 HS1 HS2 HS34 HB1 HB2 HB3 HB4 HENV HWO4 HWO1 HG2 HT3 HWV hpp hpb hgw hlo hhi
 go_loopg [9] n (fun gk fv ws=>∃ (fr:Nat) (L:List Bool),gk=n - fr∧fv=.int .i64 (fr:Int)∧fr≤n∧Hid (DfAt zs k kind tk pl w ws pp pb gw c1 c2 lo hi fr L))
 case atStart=>exact ⟨0,[],rfl,rfl,by omega,HDF⟩
 case round =>
  clear HDF
  obtain ⟨fr,L,rfl,rfl,hfr,hdf⟩:=hrel
  have hLle:L.length≤700000000000000:=by have:=(uh hdf).le;omega
  obtain ⟨v0,m,f,hwo,hf7,henv⟩:=(uh hdf).at_
  have HWO:=qz hwo
  have HENV:=qz henv
  clear hwo henv
  by_cases hlt:fr+k<n
  ·obtain ⟨b,off,rfl⟩:=ha (by omega)
   obtain ⟨e,he⟩:∃ e,e=fr+k:=⟨_,rfl⟩
   have u1:(k:Int)<(n:Int) - (fr:Int):=by omega
   have u2:(fr:Int)+(k:Int)=(e:Int):=by omega
   have u3:e<n:=by omega
   have HP:=qz (uh HPUT wr v0 m f L pp pb gw c1 c2 lo hi fr e false (uh HENV) (uh HWO) hf7 hLle (by rw [he];unfold ende;rw [← uh HN];omega) (by rw [← uh HN];simp;omega) (uh hdf).pl)
   have HNX:Hid (∀ x',WrAt wr v0 pb (L++ownB zs k kind tk pl fr L.length) x'→DfAt zs k kind tk pl w x' pp pb gw c1 c2 lo hi e (L++ownB zs k kind tk pl fr L.length)):=qz (fun x' hx'=>by
    rw [he]
    exact (uh hdf).next (v0:=v0) (m:=m) (f:=f) hk1 (by rw [← uh HN];exact hlt) (uh HOWN fr L.length (uh hdf).pl) (uh HENV) hx')
   have u4:e≤c:=by omega
   have hfe:fr<e:=by omega
   clear he
   go_wp2_with fail
   refine (uh HP).mono ?_
   rintro en x1 ⟨rfl,h1⟩
   have H1:=qz (uh HNX x1 h1)
   clear h1 HP HNX
   go_wp2_with fail
   go_roundg (n - e)
   case measure=>omega
   case rel=>exact ⟨e,_,rfl,rfl,by omega,H1⟩
  ·have u1:¬ (k:Int)<(n:Int) - (fr:Int):=by omega
   have HP:=qz (uh HPUT wr v0 m f L pp pb gw c1 c2 lo hi fr n true (uh HENV) (uh HWO) hf7 hLle (by unfold ende;rw [← uh HN];omega) (by rw [← uh HN];simp;omega) (uh hdf).pl)
   have HFIN:Hid (L++ownB zs k kind tk pl fr L.length=deflF zs k kind tk pl (n+1) 0 []):=qz (by
    obtain ⟨F,h1,h2⟩:=(uh hdf).on
    rw [uh HN,h1,deflF,if_pos (by rw [← uh HN];omega)])
   have hL2:(L++ownB zs k kind tk pl fr L.length).length≤1000000000000:=by
    rw [List.length_append]
    have:=(uh hdf).le
    have:=uh HOWN fr L.length (uh hdf).pl
    omega
   generalize L++ownB zs k kind tk pl fr L.length=Lf at HP HFIN hL2
   go_wp2_with fail
   refine (uh HP).mono ?_
   rintro en x1 ⟨rfl,v1,m1,f1,k1,k2,k3⟩
   have henv1:=(uh HENV).step k3
   have p0:x1.cell? ⟨pp,0,none⟩=some (.pointer (some ⟨pb,0,none⟩)):=by simp only [World.cell?,henv1.pack.1];rfl
   have hm1:m1=(Lf.length+7) / 8:=by have:=k1.len;omega
   have HBY:=qz (bytes_ok pb m1 f1 false v1 Lf x1 k1 (by omega))
   rw [hm1] at HBY
   have HB1:=qz henv1.bel
   clear k1 k2 k3 henv1 hm1 HP HPUT
   go_wp2_with fail
   refine (uh HBY).mono ?_
   rintro en x2 ⟨rfl,g1,g2⟩
   have HG1:=qz g1
   have HB2:Hid (Below w.heap.size w x2):=qz ((uh HB1).trans (g2.mono (uh HB1).size))
   clear g1 g2 HBY
   go_wp2_with fail
   go_ret2
   exact ⟨x1.heap.size,Lf,uh HFIN,rfl,uh HG1,(uh HB1).size,uh HB2⟩
end W4
end Go.Proofs.YtabeanealkopbaaGreat
