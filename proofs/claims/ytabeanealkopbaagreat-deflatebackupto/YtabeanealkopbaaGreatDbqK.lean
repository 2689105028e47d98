/- DeflateBack, upto: any text, packed in blocks of any size and of any kind, is told again by Inflate, all of it and with all packed bytes used, and the best kind's bytes are at most as many as any kind's and one more for each block; what was handed in is not changed. Its condition: the arguments hold together at most 1048576 values. Texts of one proof, one behind the other: Td, Ml, Lk, Og, Ft, Pz, Pi, Pug, Pv, Lp, Ra, Inf, Stops, Bk, Arg8, Arg9, BackFrame. -/
import Derived.Test.YtabeanealkopbaaGreatDbqJ
import Derived.ProofKit
import Derived.OpenShut
import Derived.ChangeOld
import Derived.SizedLaws
import Derived.JoinedCond
import Derived.Lib.SmallJoins

set_option linter.unusedVariables false
set_option maxRecDepth 100000
set_option maxHeartbeats 24000000
namespace Go.Proofs.YtabeanealkopbaaGreat
namespace W4
open Go.RowKit Mth Infl Defl
attribute [local go_sem ↓] wp_at_zero wp_at_succ
structure OwnGood (ts:List T):Prop where
 ok:OwnOk ts
 by_:TokBy (oX ts) (oY ts) ts
 head:HeadOk (oF ts) (oR ts) (oZ ts)
theorem hd_len {fs:List (Nat × Nat)} {rs:List Wd} {z:List Nat} (h:HeadOk fs rs z):(fbits fs++wbits z rs).length≤33000:=by
 have h1:=h.flen fs.length (Nat.le_refl _)
 have h2:=h.wlen rs.length (Nat.le_refl _)
 rw [List.take_length] at h1 h2
 rw [List.length_append]
 have:=h.nf
 have:=h.nr
 omega
theorem weighTold_ok (ts:List T) (a:Option Addr) (cap xb:Nat) (at_:Int) (last:Bool) (plain fx fy:Value) (w:World) (hx:BlkAt w xb last plain (.slice a ts.length cap) fx fy (.pointer none)) (hta:TokAt8 w a ts) (hne:∀ ad,a=some ad→0<ts.length→ad.block≠xb) (hg:OwnGood ts) :
  Calls Tryz.prog 24 #[.pointer (some ⟨xb,0,none⟩),.int .i64 at_] w fun e w'=>∃ ob c1 c2,e=.returned (.int .i64 ((3+(fbits (oF ts)++wbits (oZ ts) (oR ts)).length+(tbits (oX ts) (oY ts) ts++wb (oX ts) 256).length:Nat):Int))∧BlkAt w' xb last plain (.slice a ts.length cap) fx fy (.pointer (some ⟨ob,0,none⟩))∧OwnAt w w' ob ts c1 c2∧Chb xb w w':=by
 have HO:=qz (ownCodes_new ts a cap xb last plain fx fy w hx hta hg.by_.ok hg.by_.few hg.ok)
 have hn1:=hd_len hg.head
 have hn2:=tb_len hg.by_
 have HG:=qz hg
 have HTA:Hid (∀ y,Chb xb w y→TokAt8 y a ts):=qz (fun y hy=>hta.keep fun ad ha hp=>by
  obtain ⟨b,off,hab,q1,q2,q3⟩:=hta 0 hp
  have:=hne ad ha hp
  rw [ha] at hab
  obtain rfl:ad=_:=Option.some.inj hab
  exact hy.keep b (cell_lt q1) this)
 have HW58:Hid (∀ (y:World) (ob c1 c2:Nat),OwnAt w y ob ts c1 c2→Calls Tryz.prog 58 #[.pointer (some ⟨ob,0,none⟩)] y fun e w'=>e=.returned (.int .i64 ((fbits (oF ts)++wbits (oZ ts) (oR ts)).length:Int))∧Below y.heap.size y w'):=qz (fun y ob c1 c2 h=>by
  obtain ⟨fa,ra,fc,rc,ci,xl,xh,hh,_⟩:=h.head
  exact weighHead_ok ob _ _ _ fa ra fc rc ci xl xh y hh hg.head)
 have HW55:Hid (∀ (y:World) (ob c1 c2:Nat),OwnAt w y ob ts c1 c2→TokAt8 y a ts→Calls Tryz.prog 55 #[.agg #[.pointer (some ⟨c1,0,none⟩),.pointer (some ⟨c2,0,none⟩)],.slice a ts.length cap] y fun e w'=>e=.returned (.int .i64 ((tbits (oX ts) (oY ts) ts++wb (oX ts) 256).length:Int))∧Below y.heap.size y w'):=qz (fun y ob c1 c2 h ht=>codesWeigh_ok (oX ts) (oY ts) ts a cap c1 c2 _ _ y h.two (Nat.le_refl _) ht hg.by_)
 generalize (fbits (oF ts)++wbits (oZ ts) (oR ts)).length=M1 at hn1 HW58 ⊢
 generalize (tbits (oX ts) (oY ts) ts++wb (oX ts) 256).length=M2 at hn2 HW55 ⊢
 obtain ⟨n,hnn⟩:∃ n,n=ts.length:=⟨_,rfl⟩
 have HNN:=qz hnn
 rw [← hnn] at HO HW55
 clear hg hx hta hne hnn HG
 go_enter Tryz.func24,Tryz.ntmps24
 go_wp2_with fail
 refine (uh HO).mono ?_
 rintro e W1 ⟨ob,c1,c2,rfl,h1,h2,h3⟩
 have HCL:Hid (∀ y,Below W1.heap.size W1 y→y.cell? ⟨ob,0,none⟩=some (.pointer (some ⟨c1,0,none⟩))∧y.cell? ⟨ob,1,none⟩=some (.pointer (some ⟨c2,0,none⟩))∧y.cell? ⟨xb,2,none⟩=some (.slice a n cap)):=qz (fun y hy=>⟨cell_stays hy h2.p1,cell_stays hy h2.p2,cell_stays hy h1.c.2.2.1⟩)
 have HOA:Hid (∀ y,Below W1.heap.size W1 y→OwnAt w y ob ts c1 c2):=qz (fun y hy=>h2.keep (fun k _ h=>hy.block k h) hy.size)
 have HBA:Hid (∀ y,Below W1.heap.size W1 y→BlkAt y xb last plain (.slice a n cap) fx fy (.pointer (some ⟨ob,0,none⟩))∧Chb xb w y):=qz (fun y hy=>⟨(hy.block _ (heap_lt h1)).trans h1,h3.trans (Chb.of_below hy)⟩)
 clear h1 h2 h3 HO
 go_wp2_with fail
 refine wp_region_noPanic ?_
 refine wp_region_held_drew (S:=fun y=>Below W1.heap.size W1 y) (by kernel_rfl) ⟨rfl,rfl,rfl,Nat.le_refl _,fun _ _=>rfl⟩ (fun hHeld=>?_)
 refine hT 0 8 rfl rfl hHeld nPp (v:=?_) (fun x hSx=>?_) ?_
 rotate_left 1
 ·go_simp <;> with_reducible rfl
 simp only [sA,sB]
 refine hT 3 11 rfl rfl hHeld nPp (v:=?_) (fun x hSx=>?_) ?_
 rotate_left 1
 ·go_simp <;> with_reducible rfl
 simp only [sA,sB]
 refine hT 4 12 rfl rfl hHeld nPp (v:=?_) (fun x hSx=>?_) ?_
 rotate_left 1
 ·go_simp <;> with_reducible rfl
 simp only [sA,sB]
 refine hT 5 13 rfl rfl hHeld nPp (v:=?_) (fun x hSx=>?_) ?_
 rotate_left 1
 ·go_simp <;> with_reducible rfl
 simp only [sA,sB]
 refine hT 6 14 rfl rfl hHeld nPp (v:=?_) (fun x hSx=>?_) ?_
 rotate_left 1
 ·obtain ⟨d0,d1,d2⟩:=uh HCL x hSx;go_simp <;> with_reducible rfl
 simp only [sA,sB]
 refine hT 7 15 rfl rfl hHeld nPp (v:=?_) (fun x hSx=>?_) ?_
 rotate_left 1
 ·go_simp <;> with_reducible rfl
 simp only [sA,sB]
 refine hT 8 16 rfl rfl hHeld nPp (v:=?_) (fun x hSx=>?_) ?_
 rotate_left 1
 ·go_simp <;> with_reducible rfl
 simp only [sA,sB]
 refine hT 9 17 rfl rfl hHeld nPp (v:=?_) (fun x hSx=>?_) ?_
 rotate_left 1
 ·go_simp <;> with_reducible rfl
 simp only [sA,sB]
 refine hT 10 18 rfl rfl hHeld nPp (v:=?_) (fun x hSx=>?_) ?_
 rotate_left 1
 ·obtain ⟨d0,d1,d2⟩:=uh HCL x hSx;go_simp <;> with_reducible rfl
 simp only [sA,sB]
 refine held_enter 1 9 (by kernel_rfl) rfl rfl (by rfl) (by go_simp <;> exact ⟨rfl,rfl⟩) ?_
 refine (uh HW58 _ ob c1 c2 (uh HOA _ hHeld)).mono ?_
 rintro e W2 ⟨rfl,k2⟩
 have hH2:Below W1.heap.size W1 W2:=hHeld.trans (k2.mono hHeld.size)
 refine ⟨_,rfl,hH2,?_⟩
 simp only [sA,sB]
 clear k2 hHeld
 have hHeld:=hH2
 clear hH2
 refine hT 2 10 rfl rfl hHeld nPp (v:=.int .i64 (3+(M1:Int))) (fun x hSx=>?_) ?_
 ·first | (go_simp;done) | (go_simp <;> first | exact ⟨rfl,rfl⟩ | rfl | exact IntWalk.i64_in _ (by omega))
 simp only [sA,sB]
 refine held_enter 11 19 (by kernel_rfl) rfl rfl (by rfl) (by go_simp <;> exact ⟨rfl,rfl⟩) ?_
 refine (uh HW55 _ ob c1 c2 (uh HOA _ hHeld) (uh HTA _ (uh HBA _ hHeld).2)).mono ?_
 rintro e W3 ⟨rfl,k3⟩
 have HB3:Hid (Below W1.heap.size W1 W3):=qz (hHeld.trans (k3.mono hHeld.size))
 refine ⟨_,rfl,uh HB3,?_⟩
 simp only [sA,sB]
 clear k3 hHeld
 refine held_one 12 20 (by kernel_rfl) rfl rfl (by rfl) (v:=.int .i64 (3+(M1:Int)+(M2:Int))) (w':=W3) ?_ (uh HB3) ?_
 ·first | (go_simp;done) | (go_simp <;> first | exact ⟨rfl,rfl⟩ | rfl | exact IntWalk.i64_in _ (by omega))
 simp only [sA,sB]
 refine held_one 13 4 (by kernel_rfl) rfl rfl (by rfl) (v:=.int .i64 (3+(M1:Int)+(M2:Int))) (w':=W3) ?_ (uh HB3) ?_
 ·first | (go_simp;done) | (go_simp <;> first | exact ⟨rfl,rfl⟩ | rfl)
 simp only [sA,sB]
 refine wpAnyH_done (by kernel_rfl) ?_ _
 refine NoPanic.normal ?_
 go_wp2_with fail
 go_ret
 rw [show ((3+M1+M2:Nat):Int)=3+(M1:Int)+(M2:Int) by omega,← uh HNN]
 exact ⟨ob,c1,c2,rfl,(uh HBA _ (uh HB3)).1,uh HOA _ (uh HB3),(uh HBA _ (uh HB3)).2⟩
theorem putTold_ok (ts:List T) (a:Option Addr) (cap xb pb ob c1 c2:Nat) (last:Bool) (plain fx fy:Value) (wB w0 w:World) (v0:Value) (L:List Bool) (h:WrAt w0 v0 pb L w) (hsx:Safe w0 v0 pb xb) (hx:BlkAt w0 xb last plain (.slice a ts.length cap) fx fy (.pointer (some ⟨ob,0,none⟩))) (ho:OwnAt wB w0 ob ts c1 c2) (hso:∀ k,wB.heap.size≤k→k<w0.heap.size→Safe w0 v0 pb k) (hta:TokAt8 w0 a ts) (hts:∀ ad,a=some ad→0<ts.length→Safe w0 v0 pb ad.block) (hg:OwnGood ts) (hb:L.length≤700000000000000) :
  Calls Tryz.prog 25 #[.pointer (some ⟨xb,0,none⟩),.pointer (some ⟨pb,0,none⟩)] w fun e w'=>e=.returned (.tuple #[])∧WrAt w0 v0 pb (L++(head last.toNat 2++((fbits (oF ts)++wbits (oZ ts) (oR ts))++(tbits (oX ts) (oY ts) ts++wb (oX ts) 256)))) w':=by
 obtain ⟨q0,_,q2,q3,q4,q5⟩:=hx.c
 have hobs:Safe w0 v0 pb ob:=hso ob ho.ge (cell_lt ho.p1)
 have HCL:Hid (∀ L' y,WrAt w0 v0 pb L' y→y.cell? ⟨ob,0,none⟩=some (.pointer (some ⟨c1,0,none⟩))∧y.cell? ⟨ob,1,none⟩=some (.pointer (some ⟨c2,0,none⟩))∧y.cell? ⟨xb,2,none⟩=some (.slice a ts.length cap)):=qz (fun L' y hy=>⟨hy.cell (p:=⟨ob,0,none⟩) hobs ho.p1,hy.cell (p:=⟨ob,1,none⟩) hobs ho.p2,hy.cell (p:=⟨xb,2,none⟩) hsx q2⟩)
 have HBG:=qz (begin_ok xb pb 3 last w0 w v0 L h hsx q0 (by omega) (by omega) (by omega))
 have HOC:Hid (∀ L' y,WrAt w0 v0 pb L' y→Calls Tryz.prog 57 #[.pointer (some ⟨xb,0,none⟩)] y fun e w'=>e=.returned (.pointer (some ⟨ob,0,none⟩))∧w'=y):=qz (fun L' y hy=>ownCodes_old ob xb y (hy.cell (p:=⟨xb,5,none⟩) hsx q5))
 have HPH:Hid (∀ y,WrAt w0 v0 pb (L++head last.toNat (3 - 1)) y→Calls Tryz.prog 59 #[.pointer (some ⟨ob,0,none⟩),.pointer (some ⟨pb,0,none⟩)] y fun e w'=>e=.returned (.tuple #[])∧WrAt w0 v0 pb ((L++head last.toNat 2)++(fbits (oF ts)++wbits (oZ ts) (oR ts))) w'):=qz (fun y hy=>by
  obtain ⟨fa,ra,fc,rc,ci,xl,xh,hh,z1,z2,z3⟩:=ho.head
  exact putHead_ok ob pb _ _ _ fa ra fc rc ci xl xh w0 y v0 _ hy hh hg.head hobs (fun ad e=>hso _ (z2 ad e).1 (z2 ad e).2) (fun ad e=>hso _ (z3 ad e).1 (z3 ad e).2) (fun k k1 k2=>hso k (Nat.le_trans z1 k1) (Nat.lt_of_lt_of_le k2 hh.hi)) (by simp [head,nb_length];omega))
 have HCP:Hid (∀ y,WrAt w0 v0 pb ((L++head last.toNat 2)++(fbits (oF ts)++wbits (oZ ts) (oR ts))) y→Calls Tryz.prog 56 #[.agg #[.pointer (some ⟨c1,0,none⟩),.pointer (some ⟨c2,0,none⟩)],.pointer (some ⟨pb,0,none⟩),.slice a ts.length cap] y fun e w'=>e=.returned (.tuple #[])∧WrAt w0 v0 pb (L++(head last.toNat 2++((fbits (oF ts)++wbits (oZ ts) (oR ts))++(tbits (oX ts) (oY ts) ts++wb (oX ts) 256)))) w'):=qz (fun y hy=>by
  have hl:=hd_len hg.head
  have:=codesPut_ok (oX ts) (oY ts) ts a cap c1 c2 _ _ pb w0 y v0 _ hy ho.two (Nat.le_refl _) hso hta hts hg.by_ (by
   rw [List.length_append,List.length_append]
   have:(head last.toNat 2).length=3:=by simp [head,nb_length]
   omega)
  rw [List.append_assoc,List.append_assoc] at this
  exact this)
 generalize tbits (oX ts) (oY ts) ts++wb (oX ts) 256=B2 at HCP ⊢
 generalize fbits (oF ts)++wbits (oZ ts) (oR ts)=B1 at HPH HCP ⊢
 generalize ts.length=n at HCL HCP
 clear h hsx hx ho hso hta hts hg hb q0 q2 q3 q4 q5 hobs
 go_enter Tryz.func25,Tryz.ntmps25
 go_wp2_with fail
 refine (uh HBG).mono ?_
 rintro e W1 ⟨rfl,h1⟩
 have HO1:=qz (uh HOC _ _ h1)
 have HP1:=qz (uh HPH _ h1)
 clear h1 HBG HOC HPH
 go_wp2_with fail
 refine (uh HO1).mono ?_
 rintro e W ⟨rfl,rfl⟩
 clear HO1
 go_wp2_with fail
 refine (uh HP1).mono ?_
 rintro e W2 ⟨rfl,h2⟩
 have hd2:=h2.below (⟨rfl,rfl,rfl,Nat.le_refl _,fun _ _=>rfl⟩:Below W2.heap.size W2 W2.drew)
 have HC2:=qz (uh HCP _ hd2)
 clear h2 HP1 HCP
 go_wp2_with fail
 refine wp_region_noPanic ?_
 refine wp_region_held_drew (S:=fun y=>∃ L',WrAt w0 v0 pb L' y) (by kernel_rfl) ⟨_,hd2⟩ (fun hHeld=>?_)
 clear hd2
 refine hT 0 13 rfl rfl hHeld nPp (v:=?_) (fun x hSx=>?_) ?_
 rotate_left 1
 ·go_simp <;> with_reducible rfl
 simp only [sA,sB]
 refine hT 1 14 rfl rfl hHeld nPp (v:=?_) (fun x hSx=>?_) ?_
 rotate_left 1
 ·go_simp <;> with_reducible rfl
 simp only [sA,sB]
 refine hT 2 15 rfl rfl hHeld nPp (v:=?_) (fun x hSx=>?_) ?_
 rotate_left 1
 ·go_simp <;> with_reducible rfl
 simp only [sA,sB]
 refine hT 3 16 rfl rfl hHeld nPp (v:=?_) (fun x hSx=>?_) ?_
 rotate_left 1
 ·obtain ⟨L',hL'⟩:=hSx;obtain ⟨d0,d1,d2⟩:=uh HCL L' x hL';go_simp <;> with_reducible rfl
 simp only [sA,sB]
 refine hT 4 17 rfl rfl hHeld nPp (v:=?_) (fun x hSx=>?_) ?_
 rotate_left 1
 ·go_simp <;> with_reducible rfl
 simp only [sA,sB]
 refine hT 5 18 rfl rfl hHeld nPp (v:=?_) (fun x hSx=>?_) ?_
 rotate_left 1
 ·go_simp <;> with_reducible rfl
 simp only [sA,sB]
 refine hT 6 19 rfl rfl hHeld nPp (v:=?_) (fun x hSx=>?_) ?_
 rotate_left 1
 ·go_simp <;> with_reducible rfl
 simp only [sA,sB]
 refine hT 7 20 rfl rfl hHeld nPp (v:=?_) (fun x hSx=>?_) ?_
 rotate_left 1
 ·go_simp <;> with_reducible rfl
 simp only [sA,sB]
 refine hT 8 21 rfl rfl hHeld nPp (v:=?_) (fun x hSx=>?_) ?_
 rotate_left 1
 ·obtain ⟨L',hL'⟩:=hSx;obtain ⟨d0,d1,d2⟩:=uh HCL L' x hL';go_simp <;> with_reducible rfl
 simp only [sA,sB]
 refine held_enter 9 22 (by kernel_rfl) rfl rfl (by rfl) (by go_simp <;> exact ⟨rfl,rfl⟩) ?_
 refine (uh HC2).mono ?_
 rintro e W3 ⟨rfl,h3⟩
 have H3:=qz h3
 refine ⟨_,rfl,⟨_,h3⟩,?_⟩
 simp only [sA,sB]
 clear h3 HC2 HCL hHeld
 refine wpAnyH_done (by kernel_rfl) ?_ _
 refine NoPanic.normal ?_
 go_wp2_with fail
 go_end0
 exact ⟨rfl,uh H3⟩
end W4
namespace W4
open Go.RowKit Mth Infl Defl
theorem stepW_xb (l:List Int) (b:Bool) (h0:0≤l.getD 0 0) (h1:l.getD 0 0≤15):(stepW l b).2.2.1=xb (stepW l b).1.toNat:=by
 unfold stepW
 generalize cntRun (l.getD 0 0) l=c
 generalize l.getD 0 0=v at h0 h1 ⊢
 split
 ·rfl
 ·split
  ·rfl
  ·split
   ·rfl
   ·show 0=xb v.toNat
    unfold xb
    rw [if_neg (by omega),if_neg (by omega),if_neg (by omega)]
theorem wordsF_xb (l:List Int) (h:∀ j,0≤l.getD j 0∧l.getD j 0≤15):∀ k a,∀ r∈wordsF l k a,r.2.2=xb r.1.toNat
 | 0,_,r,hr=>by simp [wordsF] at hr
 | k+1,a,r,hr=>by
  unfold wordsF at hr
  split at hr
  ·rw [List.mem_cons] at hr
   rcases hr with rfl | hr
   ·have e:(l.drop a).getD 0 0=l.getD a 0:=by simp [List.getD_eq_getElem?_getD]
    exact stepW_xb (l.drop a) _ (by rw [e];exact (h a).1) (by rw [e];exact (h a).2)
   ·exact wordsF_xb l h k _ r hr
  ·simp at hr
theorem words_xb (ls:List Nat) (h:∀ x∈ls,x≤15):∀ r∈wordsL (ls.map fun z:Nat=>(z:Int)),r.2.2=xb r.1.toNat:=by
 refine wordsF_xb _ (fun j=>?_) _ _
 rcases Nat.lt_or_ge j ls.length with hj | hj
 ·have:=h ls[j] (List.getElem_mem hj)
  simp [List.getD_eq_getElem?_getD,hj]
  omega
 ·simp [List.getD_eq_getElem?_getD,hj]
theorem wbits_runs (z:List Nat) (ls:List Nat) (h:∀ x∈ls,x≤15):wbits z (wordsL (ls.map fun z:Nat=>(z:Int)))=(((runsL (ls.map fun z:Nat=>(z:Int))).map nn).map (rbits z)).flatten:=by
 unfold wbits
 rw [← wordsL_runs,List.map_map,List.map_map]
 congr 1
 refine List.map_congr_left fun r hr=>?_
 show wb z r.1.toNat++nb r.2.1 r.2.2=wb z r.1.toNat++nb r.2.1 (xb r.1.toNat)
 rw [words_xb ls h r hr]
theorem cw_runs (ls:List Nat) (s:Nat):cw (wordsL (ls.map fun z:Nat=>(z:Int))) s=(((runsL (ls.map fun z:Nat=>(z:Int))).map nn).map Prod.fst).count s:=by
 unfold cw
 rw [← wordsL_runs,List.map_map,List.map_map]
 rfl
theorem cw_often (ts:List T):cw (oR ts)=oftenOf (bl (symCount ts) 15 286) (bl (distCount ts) 15 30):=by
 funext s
 exact cw_runs (oX ts++oY ts) s
theorem fbits_fields (nx ny:Nat) (vs:List Nat):fbits (fieldsOf nx ny vs)=nb (nx - 257) 5++(nb (ny - 1) 5++(nb (vs.length - 4) 4++tbits3 vs)):=by
 unfold fbits fieldsOf tbits3
 simp [List.map_map,Function.comp_def]
theorem plan_bits (ts:List T) (hx:∀ x∈oX ts,x≤15) (hy:∀ x∈oY ts,x≤15):fbits (oF ts)++wbits (oZ ts) (oR ts)=(planOf (bl (symCount ts) 15 286) (bl (distCount ts) 15 30) (oZ ts)).bits:=by
 have h:=wbits_runs (oZ ts) (oX ts++oY ts) (fun x hxx=>by
  rw [List.mem_append] at hxx
  rcases hxx with h | h
  ·exact hx x h
  ·exact hy x h)
 unfold oR
 rw [h]
 unfold oF
 rw [fbits_fields]
 unfold Plan.bits planOf
 simp only [List.append_assoc]
 rfl
end W4
namespace W4
open Go.RowKit Mth Infl Defl
theorem ans_out {os:List Int} {l:List Nat} {M:Nat} (hM:1≤M) (hn:l.length≤2 ^ M) (h1:l.length≠1) (i:Nat):L5.ans os l M i=Merge.out (L5.wt os) l M i:=by
 unfold L5.ans
 rw [if_neg h1,← Merge.len_out (L5.wt os) l M hM hn i]
 congr 1
 unfold L5.worths
 simp [Merge.fs,Merge.baseOf]
theorem order_ex (os:List Int):∃ l,L5.IsOrder os l:=by
 let le:Nat→Nat→Bool:=fun i j=>decide (L5.wt os i<L5.wt os j∨L5.wt os i=L5.wt os j∧i≤j)
 have hp:((L5.raw os os.length).mergeSort le).Pairwise (fun a b=>le a b=true):=List.pairwise_mergeSort (fun a b c h1 h2=>by simp only [le,decide_eq_true_eq] at *;omega) (fun a b=>by simp only [le,Bool.or_eq_true,decide_eq_true_eq];omega) _
 have hn:((L5.raw os os.length).mergeSort le).Nodup:=(List.mergeSort_perm _ _).nodup_iff.2 (L5.raw_nodup os _)
 refine ⟨(L5.raw os os.length).mergeSort le,⟨?_,fun i=>?_⟩⟩
 ·refine (hp.and hn).imp ?_
  rintro a b ⟨h1,h2⟩
  simp only [le,decide_eq_true_eq] at h1
  unfold L5.Ahead
  omega
 ·rw [List.mem_mergeSort,L5.raw_mem]
theorem bl_limL {f:Nat→Nat} {M n:Nat} {l:List Nat} (h:L5.IsOrder (osOf f n) l) (hM:1≤M) (hn:l.length≤2 ^ M):bl f M n=limL (L5.wt (osOf f n)) l M n:=by
 rw [bl_is h]
 unfold limL
 refine List.map_congr_left fun i _=>?_
 unfold limOf
 by_cases h1:l.length=1
 ·rw [if_pos (by omega)]
  unfold L5.ans
  rw [if_pos h1]
  obtain ⟨y,rfl⟩:∃ y,l=[y]:=List.length_eq_one_iff.1 h1
  by_cases e:i=y
  ·subst e;simp
  ·have:¬ y=i:=fun h=>e h.symm
   simp [e,this]
 ·rw [ans_out hM hn h1]
  by_cases h0:l.length≤1
  ·have:l=[]:=List.length_eq_zero_iff.1 (by omega)
   subst this
   rw [if_pos h0]
   simp [Merge.out,Merge.syms]
  ·rw [if_neg h0]
theorem bl_ok (f:Nat→Nat) (M n:Nat) (hM:1≤M) (hM2:M≤20) (hn:n≤2 ^ M):LimOk f M n (bl f M n):=by
 obtain ⟨l,hl⟩:=order_ex (osOf f n)
 have hlen:l.length≤2 ^ M:=by
  refine Nat.le_trans ?_ hn
  have:=List.Nodup.length_le_of_subset hl.nodup (fun i hi=>by
   have:=(hl.mem i).1 hi
   rw [osOf_length] at this
   exact List.mem_range.2 this.1:l ⊆ List.range n)
  simpa using this
 have h:=lim_ok (n:=n) (M:=M) hl.sorted hl.nodup (fun i=>by rw [hl.mem,osOf_length]) hM hM2 hlen
 rw [bl_limL hl hM hlen]
 refine ⟨h.len,h.le,fun i hi h0=>h.pos i hi (by rw [osOf_wt f n i hi];exact h0),fun i hi h0=>h.zero i hi (by rw [osOf_wt f n i hi];exact h0),h.loose,?_,h.good⟩
 rintro ⟨i,j,hi,hj,hne,h1,h2⟩
 exact h.full ⟨i,j,hi,hj,hne,by rw [osOf_wt f n i hi];exact h1,by rw [osOf_wt f n j hj];exact h2⟩
end W4
namespace W4
open Go.RowKit Mth Infl Defl
theorem tot_le (f:Nat→Nat) (n B:Nat) (h:∀ i,f i≤B):∀ k,k≤n→L5.tot (osOf f n) k≤k*B
 | 0,_=>by simp [L5.tot]
 | k+1,hk=>by
  unfold L5.tot
  have:=tot_le f n B h k (by omega)
  rw [osOf_wt f n k (by omega),Nat.succ_mul]
  have:=h k
  omega
theorem stepW_is (l:List Int) (b:Bool) (h0:0≤l.getD 0 0):0≤(stepW l b).1∧(stepW l b).2.1<2 ^ (stepW l b).2.2.1∧(stepW l b).2.2.1≤13:=by
 unfold stepW
 generalize cntRun (l.getD 0 0) l=c
 generalize l.getD 0 0=v at h0 ⊢
 split
 ·exact ⟨by show (0:Int)≤18;decide,by show min c 138 - 11<128;omega,by show 7≤13;decide⟩
 ·split
  ·rename_i h1 h2
   exact ⟨by show (0:Int)≤17;decide,by show c - 3<8;omega,by show 3≤13;decide⟩
  ·split
   ·exact ⟨by show (0:Int)≤16;decide,by show min c 6 - 3<4;omega,by show 2≤13;decide⟩
   ·exact ⟨h0,by show 0<1;decide,by show 0≤13;decide⟩
theorem wordsF_is (l:List Int) (h:∀ j,0≤l.getD j 0):∀ k a,(wordsF l k a).length≤k∧∀ r∈wordsF l k a,0≤r.1∧r.2.1<2 ^ r.2.2∧r.2.2≤13
 | 0,_=>⟨Nat.le_refl _,fun r hr=>by simp [wordsF] at hr⟩
 | k+1,a=>by
  unfold wordsF
  split
  ·have ih:=wordsF_is l h k (a+(step4 l a).2.2.2)
   refine ⟨by simp;exact ih.1,fun r hr=>?_⟩
   rw [List.mem_cons] at hr
   rcases hr with rfl | hr
   ·have e:(l.drop a).getD 0 0=l.getD a 0:=by simp [List.getD_eq_getElem?_getD]
    exact stepW_is (l.drop a) _ (by rw [e];exact h a)
   ·exact ih.2 r hr
  ·exact ⟨by simp,fun r hr=>by simp at hr⟩
theorem words_is (ls:List Nat):(wordsL (ls.map fun z:Nat=>(z:Int))).length≤ls.length∧∀ r∈wordsL (ls.map fun z:Nat=>(z:Int)),0≤r.1∧r.2.1<2 ^ r.2.2∧r.2.2≤13:=by
 have:=wordsF_is (ls.map fun z:Nat=>(z:Int)) (fun j=>by
  rcases Nat.lt_or_ge j ls.length with hj | hj
  ·simp [List.getD_eq_getElem?_getD,hj]
  ·simp [List.getD_eq_getElem?_getD,hj]) (ls.map fun z:Nat=>(z:Int)).length 0
 refine ⟨?_,this.2⟩
 have h:=this.1
 rw [List.length_map] at h
 unfold wordsL
 rw [List.length_map]
 exact h
theorem ln_le {ls:List Nat} {B:Nat} (h:∀ l∈ls,l≤B) (s:Nat):Canon.ln ls s≤B:=by
 unfold Canon.ln
 rw [List.getD_eq_getElem?_getD]
 cases hg:ls[s]? with
 | none=>simp
 | some w=>exact h w (List.mem_of_getElem? hg)
theorem own_good {out:List Nat} {ts:List T} (hok:Oks out ts) (hlen:ts.length≤1000000000):OwnGood ts:=by
 have h1:LimOk (symCount ts) 15 286 (bl (symCount ts) 15 286):=bl_ok _ _ _ (by decide) (by decide) (by decide)
 have h2:LimOk (distCount ts) 15 30 (bl (distCount ts) 15 30):=bl_ok _ _ _ (by decide) (by decide) (by decide)
 have h3:LimOk (oftenOf (bl (symCount ts) 15 286) (bl (distCount ts) 15 30)) 7 19 (oZ ts):=by
  rw [← cw_often]
  exact bl_ok _ _ _ (by decide) (by decide) (by decide)
 obtain ⟨p1,p2,p3,p4,p5⟩:=plan_ok h1 h2 (by unfold symCount;rw [if_pos rfl];omega) h3
 have hx15:∀ l∈oX ts,l≤15:=fun l hl=>h1.le l (trim_mem _ _ _ l hl)
 have hy15:∀ l∈oY ts,l≤15:=fun l hl=>h2.le l (trim_mem _ _ _ l hl)
 have hw:=words_is (oX ts++oY ts)
 have x2:(oX ts).length≤286:=p1.x2
 have y2:(oY ts).length≤30:=p1.y2
 have x1:257≤(oX ts).length:=p1.x1
 have y1:1≤(oY ts).length:=p1.y1
 have hrl:(oR ts).length≤1000:=by
  have:=hw.1
  rw [List.length_append] at this
  show (wordsL _).length≤1000
  omega
 have hrs:∀ r∈oR ts,r.1.toNat<19∧0<Canon.ln (oZ ts) r.1.toNat:=fun r hr=>by
  have hm:nn (r.1,r.2.1)∈(runsL ((oX ts++oY ts).map fun z:Nat=>(z:Int))).map nn:=by
   rw [← wordsL_runs,List.map_map]
   exact List.mem_map_of_mem (f:=nn∘fun r:Wd=>(r.1,r.2.1)) hr
  have hs:=runs_sym (oX ts++oY ts) (fun x hxx=>by
   rw [List.mem_append] at hxx
   rcases hxx with h | h
   ·exact hx15 x h
   ·exact hy15 x h) _ hm
  refine ⟨hs,h3.pos _ hs ?_⟩
  unfold oftenOf
  exact List.count_pos_iff.2 (List.mem_map_of_mem (f:=Prod.fst) hm)
 have hc1:∀ i,symCount ts i≤1000000001:=fun i=>by
  rw [← cn_true]
  have:=cn_le (allEv ts) true i
  unfold symCount at *
  have:((ts.map fun t=>if t.n=0 then t.b else symL t.n).count i)≤ts.length:=Nat.le_trans List.count_le_length (by simp)
  rw [show cnB true (allEv ts) i=symCount ts i by rw [cn_true]]
  unfold symCount
  split <;> omega
 have hc2:∀ i,distCount ts i≤1000000001:=fun i=>by
  unfold distCount
  refine Nat.le_trans List.count_le_length ?_
  rw [List.length_map]
  exact Nat.le_trans (List.length_filter_le _ _) (by omega)
 have hc3:∀ i,cw (oR ts) i≤1000:=fun i=>Nat.le_trans (cw_le _ i) hrl
 refine ⟨⟨?_,?_,?_,hx15,hy15,(trim_sum 257 286 _ true).1 h1.loose,(trim_sum 1 30 _ true).1 h2.loose,h3.le,p1.cz,fun r hr=>⟨(hw.2 r hr).1,?_⟩,hrl⟩,⟨fun t ht=>hok.each t ht,told_has hok p4 p5,p4 256 (by decide) (by unfold symCount;rw [if_pos rfl];omega),ln_le hx15,ln_le hy15,hlen⟩,⟨?_,fun r hr=>⟨(hw.2 r hr).1,⟨?_,(hrs r hr).2,?_,(hw.2 r hr).2.1,(hw.2 r hr).2.2⟩⟩,?_,hrl⟩⟩
 ·have:=tot_le _ 286 _ hc1 286 (Nat.le_refl _);omega
 ·have:=tot_le _ 30 _ hc2 30 (Nat.le_refl _);omega
 ·have:=tot_le _ 19 _ hc3 19 (Nat.le_refl _);omega
 ·have:=(hrs r hr).1;omega
 ·intro r hr
  have v1:4≤(trim 4 19 (order.map fun j=>(oZ ts).getD j 0)).length:=p1.v1
  have v2:(trim 4 19 (order.map fun j=>(oZ ts).getD j 0)).length≤19:=p1.v2
  unfold oF fieldsOf at hr
  simp only [List.mem_append,List.mem_cons,List.not_mem_nil,or_false,List.mem_map] at hr
  rcases hr with (rfl | rfl | rfl) | ⟨v,hv,rfl⟩
  ·exact ⟨by show (oX ts).length - 257<32;omega,by show 5≤5;decide⟩
  ·exact ⟨by show (oY ts).length - 1<32;omega,by show 5≤5;decide⟩
  ·exact ⟨by show _ - 4<16;omega,by show 4≤5;decide⟩
  ·exact ⟨by show v<8;exact p1.v7 v hv,by show 3≤5;decide⟩
 ·rw [h3.len];exact (hrs r hr).1
 ·exact Nat.le_trans (ln_le h3.le _) (by decide)
 ·have v2:(trim 4 19 (order.map fun j=>(oZ ts).getD j 0)).length≤19:=p1.v2
  unfold oF fieldsOf
  rw [List.length_append,List.length_map]
  show 3+_≤1000
  omega
end W4
namespace W4
open Go.RowKit Mth Infl Defl
theorem fixed_by {out:List Nat} {ts:List T} (hok:Oks out ts) (hlen:ts.length≤1000000000):TokBy fixedL fixedD ts where
 ok:=fun t ht=>hok.each t ht
 has:=fun t ht=>fixed_has (hok.each t ht)
 fin:=by
  refine ⟨by rw [fixedL_len];decide,?_⟩
  unfold Canon.ln
  rw [fixedL_is,List.getD_eq_getElem?_getD,List.getElem?_map,List.getElem?_range (by decide)]
  decide
 m1:=ln_le fixedL_le
 m2:=ln_le (by decide)
 few:=hlen
noncomputable def plOf (ts:List T):List Nat × List Nat × List Nat:=(bl (symCount ts) 15 286,bl (distCount ts) 15 30,oZ ts)
theorem plOf_ok (ts:List T):LimOk (symCount ts) 15 286 (plOf ts).1∧LimOk (distCount ts) 15 30 (plOf ts).2.1∧LimOk (oftenOf (plOf ts).1 (plOf ts).2.1) 7 19 (plOf ts).2.2:=by
 refine ⟨bl_ok _ _ _ (by decide) (by decide) (by decide),bl_ok _ _ _ (by decide) (by decide) (by decide),?_⟩
 show LimOk (oftenOf (bl (symCount ts) 15 286) (bl (distCount ts) 15 30)) 7 19 (oZ ts)
 rw [← cw_often]
 exact bl_ok _ _ _ (by decide) (by decide) (by decide)
theorem told_bits {out:List Nat} {ts:List T} (hok:Oks out ts) (hlen:ts.length≤1000000000) (last:Nat):head last 2++((fbits (oF ts)++wbits (oZ ts) (oR ts))++(tbits (oX ts) (oY ts) ts++wb (oX ts) 256))=toldB (plOf ts) ts last:=by
 have h:=own_good hok hlen
 rw [plan_bits ts h.ok.x15 h.ok.y15]
 rfl
end W4
namespace W4
open Go.RowKit Mth Infl Defl
def toT (t:T6.Tok):T:=⟨t.n.toNat,t.d.toNat,t.b⟩
theorem pz_snoc (zs:List Nat) (q:Nat) (h:q<zs.length):zs.take (q+1)=zs.take q++[zs.getD q 0]:=by
 rw [List.take_add_one,List.getElem?_eq_getElem h]
 simp [List.getD_eq_getElem?_getD,List.getElem?_eq_getElem h]
theorem pz_getD (zs:List Nat) (q i:Nat) (h:i<q):(zs.take q).getD i 0=zs.getD i 0:=by
 simp [List.getD_eq_getElem?_getD,h]
theorem pz_cp {zs:List Nat} {q d:Nat} (hd:1≤d) (hq:d≤q):∀ n,q+n≤zs.length→T6.Eqs (T6.zf zs) q d n→cp d n (zs.take q)=zs.take (q+n)
 | 0,_,_=>rfl
 | n+1,hl,he=>by
  have ih:=pz_cp hd hq n (by omega) (he.mono (by omega))
  rw [cp,ih,show q+(n+1)=(q+n)+1 by omega,pz_snoc zs (q+n) (by omega)]
  have hlen:(zs.take (q+n)).length=q+n:=by simp;omega
  rw [hlen,pz_getD _ _ _ (by omega)]
  have:=he n (by omega)
  simp only [T6.zf] at this
  rw [this]
theorem pz_tok {zs:List Nat} {q q':Nat} {t:T6.Tok} (hz:∀ z∈zs,z<256) (hq:q<zs.length) (h:T6.TokAt zs 32768 3 258 q t q') :
  (toT t).ok (zs.take q)∧(toT t).ext (zs.take q)=zs.take q'∧t.n=((toT t).n:Int)∧t.d=((toT t).d:Int):=by
 obtain ⟨n,d,hb,h⟩:=h
 have hle:=hb.le
 rcases h with ⟨h1,rfl,rfl⟩ | ⟨h1,rfl,rfl⟩
 ·rcases hb.one with ⟨e,_⟩ | ⟨k1,k2,k3,k4,_⟩
  ·omega
  ·have hlen:(zs.take q).length=q:=by simp;omega
   refine ⟨.inr ⟨?_,?_,?_,?_,?_⟩,?_,?_,?_⟩
   ·show 3≤(n:Int).toNat;omega
   ·show (n:Int).toNat≤258;omega
   ·show 1≤(d:Int).toNat;omega
   ·show (d:Int).toNat≤32768;omega
   ·show (d:Int).toNat≤(zs.take q).length;omega
   ·unfold T.ext
    rw [if_neg (by show ¬ (n:Int).toNat=0;omega)]
    exact pz_cp (d:=d) k2 (by omega) n (by omega) k4
   ·show (n:Int)=(((n:Int).toNat:Nat):Int);omega
   ·show (d:Int)=(((d:Int).toNat:Nat):Int);omega
 ·refine ⟨.inl ⟨rfl,?_⟩,?_,rfl,rfl⟩
  ·show zs.getD q 0<256
   rw [List.getD_eq_getElem?_getD,List.getElem?_eq_getElem hq]
   exact hz _ (List.getElem_mem hq)
  ·unfold T.ext
   rw [if_pos (by rfl)]
   exact (pz_snoc zs q hq).symm
theorem pz_exts (t:T):∀ (ts:List T) (out:List Nat),exts out (ts++[t])=t.ext (exts out ts)
 | [],out=>rfl
 | a :: ts,out=>pz_exts t ts (a.ext out)
theorem pz_oks (t:T):∀ (ts:List T) (out:List Nat),Oks out ts→t.ok (exts out ts)→Oks out (ts++[t])
 | [],out,_,h=>⟨h,trivial⟩
 | a :: ts,out,h,h2=>⟨h.1,pz_oks t ts (a.ext out) h.2 h2⟩
theorem parsed_ok {zs:List Nat} {p q:Nat} {l:List T6.Tok} (hz:∀ z∈zs,z<256) (h:T6.Parsed zs 32768 3 258 p l q):Oks (zs.take p) (l.map toT)∧exts (zs.take p) (l.map toT)=zs.take q∧∀ t∈l,t.n=((toT t).n:Int)∧t.d=((toT t).d:Int):=by
 induction h with
 | nil=>exact ⟨trivial,rfl,fun t ht=>by simp at ht⟩
 | @snoc ts q t q' h hq ht ih =>
  obtain ⟨i1,i2,i3⟩:=ih
  obtain ⟨e1,e2,e3,e4⟩:=pz_tok hz hq ht
  rw [List.map_append,List.map_singleton]
  refine ⟨pz_oks _ _ _ i1 (by rw [i2];exact e1),by rw [pz_exts,i2,e2],fun t' ht'=>?_⟩
  rw [List.mem_append,List.mem_singleton] at ht'
  rcases ht' with h' | rfl
  ·exact i3 t' h'
  ·exact ⟨e3,e4⟩
theorem parsed_more (zs:List Nat) (p:Nat):∀ (k q:Nat) (l:List T6.Tok),T6.Parsed zs 32768 3 258 p l q→zs.length - q≤k→q≤zs.length→∃ l',T6.Parsed zs 32768 3 258 p l' zs.length
 | 0,q,l,h,hk,hq=>⟨l,by rw [show zs.length=q by omega];exact h⟩
 | k+1,q,l,h,hk,hq=>by
  by_cases e:q=zs.length
  ·exact ⟨l,by rw [← e];exact h⟩
  ·have hlt:q<zs.length:=by omega
   obtain ⟨n,d,hb⟩:=T6.IsBest.has (T6.zf zs) q (min 258 (zs.length - q)) (min q 32768)
   obtain ⟨t,q',ht⟩:∃ t q',T6.TokAt zs 32768 3 258 q t q':=by
    by_cases h3:3≤n
    ·exact ⟨_,_,n,d,hb,.inl ⟨h3,rfl,rfl⟩⟩
    ·exact ⟨_,_,n,d,hb,.inr ⟨by omega,rfl,rfl⟩⟩
   have hl:=ht.le hlt (by omega)
   exact parsed_more zs p k q' _ (.snoc h hlt ht) (by omega) hl.2
theorem parsed_has (zs:List Nat) (p:Nat) (hp:p≤zs.length):∃ l,T6.Parsed zs 32768 3 258 p l zs.length:=parsed_more zs p (zs.length - p) p [] .nil (Nat.le_refl _) hp
open Classical in
noncomputable def tkOf (zs:List Nat) (a e:Nat):List T:=if h:∃ l,T6.Parsed (zs.take e) 32768 3 258 a l (zs.take e).length then (Classical.choose h).map toT else []
theorem tkOf_is {zs:List Nat} {a e:Nat} {l:List T6.Tok} (h:T6.Parsed (zs.take e) 32768 3 258 a l (zs.take e).length):tkOf zs a e=l.map toT:=by
 unfold tkOf
 rw [dif_pos ⟨l,h⟩]
 congr 1
 exact (Classical.choose_spec (⟨l,h⟩:∃ l,T6.Parsed (zs.take e) 32768 3 258 a l (zs.take e).length)).eq h
theorem tkOf_ok {zs:List Nat} (hz:∀ z∈zs,z<256) {a e:Nat} (hae:a≤e) (he:e≤zs.length):Oks (zs.take a) (tkOf zs a e)∧exts (zs.take a) (tkOf zs a e)=zs.take e∧(tkOf zs a e).length+a≤e:=by
 have hlen:(zs.take e).length=e:=by simp;omega
 obtain ⟨l,hl⟩:=parsed_has (zs.take e) a (by omega)
 rw [tkOf_is hl]
 obtain ⟨h1,h2,_⟩:=parsed_ok (fun z h=>hz z (List.mem_of_mem_take h)) hl
 have ht:(zs.take e).take a=zs.take a:=by rw [List.take_take,Nat.min_eq_left hae]
 rw [ht] at h1 h2
 have h3:=(hl.len (by omega) (by omega)).1
 rw [hlen] at h3
 refine ⟨h1,?_,by simpa using h3⟩
 rw [h2,List.take_take,hlen,Nat.min_self]
theorem tools_ok {zs:List Nat} (hz:∀ z∈zs,z<256):Tools zs (tkOf zs) plOf where
 oks:=fun a e h1 h2=>(tkOf_ok hz h1 h2).1
 ext:=fun a e h1 h2=>(tkOf_ok hz h1 h2).2.1
 l1:=fun a e _ _=>(plOf_ok _).1
 l2:=fun a e _ _=>(plOf_ok _).2.1
 l3:=fun a e _ _=>(plOf_ok _).2.2
theorem tcells_get (l:List T6.Tok):∀ i,i<l.length→(T6.tcells l)[i*3]?=some (.int .i64 (l.getD i T6.tz).n)∧(T6.tcells l)[i*3+1]?=some (.int .i64 (l.getD i T6.tz).d)∧(T6.tcells l)[i*3+2]?=some (.int .u8 ((l.getD i T6.tz).b:Int)):=by
 induction l with
 | nil=>intro i h;simp at h
 | cons t ts ih =>
  intro i h
  cases i with
  | zero=>exact ⟨rfl,rfl,rfl⟩
  | succ i =>
   have:=ih i (by simpa using h)
   rw [show (i+1)*3=i*3+3 by omega]
   exact this
theorem row_toks {w:World} {base:Nat} {tv:Value} {l:List T6.Tok} (h:w.ownsRow base 76 3 tv l.length (T6.tcells l)) (hn:∀ t∈l,t.n=((toT t).n:Int)∧t.d=((toT t).d:Int)) :
  ∃ a cap,tv=.slice a (l.map toT).length cap∧TokAt8 w a (l.map toT)∧∀ ad,a=some ad→base≤ad.block∧ad.block<w.heap.size:=by
 obtain ⟨h1,h | ⟨g,cap,cur,rfl,hg,hh,h4,h5,h6,h7⟩⟩:=h
 ·obtain ⟨rfl,h0⟩:=h
  refine ⟨none,0,by rw [List.length_map,h0],fun i hi=>?_,fun ad e=>by cases e⟩
  rw [List.length_map,h0] at hi
  omega
 ·refine ⟨some ⟨g,0,none⟩,cap,by rw [List.length_map],fun i hi=>?_,fun ad e=>by cases e;exact ⟨hg,heap_lt hh⟩⟩
  rw [List.length_map] at hi
  obtain ⟨c1,c2,c3⟩:=tcells_get l i hi
  have hm:l.getD i T6.tz∈l:=by
   rw [List.getD_eq_getElem?_getD,List.getElem?_eq_getElem hi]
   exact List.getElem_mem hi
  obtain ⟨n1,n2⟩:=hn _ hm
  have key:∀ j u,(T6.tcells l)[j]?=some u→w.cell? ⟨g,j,none⟩=some u:=fun j u hj=>by
   rw [← h7,List.getElem?_take] at hj
   split at hj
   ·simp only [World.cell?,hh]
    simpa using hj
   ·cases hj
  have eg:(l.map toT).getD i ⟨0,0,0⟩=toT (l.getD i T6.tz):=by
   simp [List.getD_eq_getElem?_getD,hi]
  refine ⟨g,0,rfl,?_,?_,?_⟩
  ·rw [eg,← n1,Nat.zero_add];exact key _ _ c1
  ·rw [eg,← n2,Nat.zero_add];exact key _ _ c2
  ·rw [eg,Nat.zero_add];exact key _ _ c3
end W4
namespace W4
open Go.RowKit Mth Infl Defl
structure PutEnv (x0:World) (kind pp pb gw c1 c2 lo hi:Nat) (v0:Value) (m f:Nat) (L:List Bool):Prop where
 pack:PackAt x0 pp pb kind gw c1 c2
 wok:WOk x0 pb false v0 m L f
 f7:f≤7
 spp:Safe x0 v0 pb pp
 sgw:Safe x0 v0 pb gw
 codes:TwoCodes fixedL fixedD x0 c1 c2 lo hi
 shi:∀ k,lo≤k→k<hi→Safe x0 v0 pb k
 len:L.length≤700000000000000
section
variable {x0:World} {kind pp pb gw c1 c2 lo hi:Nat} {v0:Value} {m f:Nat} {L:List Bool}
theorem PutEnv.hi_le (h:PutEnv x0 kind pp pb gw c1 c2 lo hi v0 m f L):hi≤x0.heap.size:=by
 obtain ⟨x,y,⟨wg,g,cap,N,base,A,B,S,H,ix,ky,hc⟩,h1,h2⟩:=h.codes.a
 have:=hc.b1
 have:=(h.shi (hi - 1) (by omega) (by omega)).1
 omega
theorem safe_on {x z:World} {v0:Value} {pb k:Nat} (h:Safe x v0 pb k) (hb:x.heap.size≤z.heap.size):Safe z v0 pb k:=⟨Nat.lt_of_lt_of_le h.1 hb,h.2.1,h.2.2⟩
theorem PutEnv.new_safe (h:PutEnv x0 kind pp pb gw c1 c2 lo hi v0 m f L) {z:World} {k:Nat} (h1:x0.heap.size≤k) (h2:k<z.heap.size):Safe z v0 pb k :=
 ⟨h2,by have:=h.wok.lt;omega,fun e=>by have:=(h.wok.row.lt k e).2;omega⟩
theorem PutEnv.fin (h:PutEnv x0 kind pp pb gw c1 c2 lo hi v0 m f L) {z w':World} (hb:Below x0.heap.size x0 z) {L':List Bool} (hw:WrAt z v0 pb L' w'):WrAt x0 v0 pb L' w'∧PackAt w' pp pb kind gw c1 c2:=by
 have q1:=hw.block (safe_on h.spp hb.size)
 have q2:=hw.block (safe_on h.sgw hb.size)
 obtain ⟨v',m',f',k1,k2,k3⟩:=hw
 refine ⟨⟨v',m',f',k1,k2,(Chg.of_below hb).trans k3⟩,?_,?_⟩
 ·rw [q1,hb.block _ h.spp.1];exact h.pack.1
 ·rw [q2,hb.block _ h.sgw.1];exact h.pack.2
theorem PutEnv.pack_on (h:PutEnv x0 kind pp pb gw c1 c2 lo hi v0 m f L) {z:World} (hb:Below x0.heap.size x0 z):PackAt z pp pb kind gw c1 c2:=⟨by rw [hb.block _ h.spp.1];exact h.pack.1,by rw [hb.block _ h.sgw.1];exact h.pack.2⟩
theorem PutEnv.codes_on (h:PutEnv x0 kind pp pb gw c1 c2 lo hi v0 m f L) {z:World} (hb:Below x0.heap.size x0 z):TwoCodes fixedL fixedD z c1 c2 lo hi:=h.codes.keep fun k h1 h2=>hb.block k (h.shi k h1 h2).1
end
structure ZB (x0:World) (ts:List T) (last:Bool) (pv:Value) (c1 c2 xb:Nat) (ta:Option Addr) (tc:Nat) (own:Value) (z:World):Prop where
 bel:Below x0.heap.size x0 z
 ge:x0.heap.size≤xb
 blk:BlkAt z xb last pv (.slice ta ts.length tc) (.pointer (some ⟨c1,0,none⟩)) (.pointer (some ⟨c2,0,none⟩)) own
 tok:TokAt8 z ta ts
 far:∀ ad,ta=some ad→x0.heap.size≤ad.block∧ad.block<z.heap.size∧ad.block≠xb
theorem ZB.on {x0:World} {ts:List T} {last:Bool} {pv:Value} {c1 c2 xb:Nat} {ta:Option Addr} {tc:Nat} {own:Value} {z z':World} (h:ZB x0 ts last pv c1 c2 xb ta tc own z) (hb:Below z.heap.size z z'):ZB x0 ts last pv c1 c2 xb ta tc own z' where
 bel:=h.bel.trans (hb.mono h.bel.size)
 ge:=h.ge
 blk:=by have:=h.blk;unfold BlkAt at this ⊢;rw [hb.block _ (heap_lt this)];exact this
 tok:=h.tok.keep fun ad ha _=>hb.block _ (h.far ad ha).2.1
 far:=fun ad ha=>⟨(h.far ad ha).1,Nat.lt_of_lt_of_le (h.far ad ha).2.1 hb.size,(h.far ad ha).2.2⟩
def TTp (ts:List T) (ta:Option Addr) (tl tc:Nat) (y y':World):Prop:=tl=ts.length∧TokAt8 y' ta ts∧∀ ad,ta=some ad→y.heap.size≤ad.block∧ad.block<y'.heap.size
theorem zb_make {x0 x x':World} {ts:List T} {last:Bool} {pv:Value} {c1 c2 xb:Nat} {ta:Option Addr} {tl tc:Nat} (h1:Below x0.heap.size x0 x) (h2:BlkAt x xb last pv (.slice none 0 0) (.pointer (some ⟨c1,0,none⟩)) (.pointer (some ⟨c2,0,none⟩)) (.pointer none)) (h3:x0.heap.size≤xb) (h4:Below x.heap.size x x') (h5:TTp ts ta tl tc x x') :
  ZB x0 ts last pv c1 c2 xb ta tc (.pointer none) (x'.setCell ⟨xb,2,none⟩ (.slice ta tl tc)):=by
 obtain ⟨rfl,h6,h7⟩:=h5
 have hx:=heap_lt h2
 have hx':x'.heap[xb]?=_:=(h4.block xb hx).trans h2
 have hne:∀ ad,ta=some ad→ad.block≠xb:=fun ad ha=>by have:=(h7 ad ha).1;omega
 refine ⟨(h1.trans (h4.mono h1.size)).setCell h3 _,h3,?_,h6.keep fun ad ha _=>heap_setCell_other _ _ _ _ (hne ad ha),fun ad ha=>⟨Nat.le_trans h1.size (h7 ad ha).1,by rw [World.size_setCell];exact (h7 ad ha).2,hne ad ha⟩⟩
 unfold BlkAt
 rw [heap_setCell_same _ xb 2 _ _ _ hx']
 rfl
theorem parse_at {zs:List Nat} {w x:World} {a:Option Addr} {c fr e:Nat} (ht:TextAt w a c zs) (hz:∀ z∈zs,z<256) (hc:zs.length≤c) (hn:zs.length≤10000000) (hml:T6.ML w) (hb:Below w.heap.size w x) (hfe:fr≤e) (he:e≤zs.length) :
  Calls Tryz.prog 29 #[.slice a e c,.int .i64 (fr:Int),.int .i64 32768,.int .i64 3,.int .i64 258] x fun en x'=>∃ ta tl tc,en=.returned (.tuple #[.slice ta tl tc,.int .i64 0])∧Below x.heap.size x x'∧TTp (tkOf zs fr e) ta tl tc x x':=by
 have hlen:(zs.take e).length=e:=by simp;omega
 have hr:T6.ReadsU x.heap.size x (.slice a (zs.take e).length c) (zs.take e):=by
  refine ⟨a,c,rfl,by omega,fun h0=>?_⟩
  obtain ⟨b,off,h1,h2,h3⟩:=ht.spot (by omega)
  refine ⟨b,off,h1,Nat.lt_of_lt_of_le h2 hb.size,fun j hj=>?_⟩
  rw [pz_getD _ _ _ (by omega)]
  exact cell_stays hb (h3 j (by omega))
 have hp:=T6.parse_good (zs.take e) a c fr 32768 3 258 x hr (by omega) (fun z h=>hz z (List.mem_of_mem_take h)) (by omega) (by omega) (by omega) (by omega) (by omega) (by omega) (by omega) (T6.ML.stays hb hml)
 rw [hlen] at hp
 refine hp.mono ?_
 rintro en x' ⟨tv,l,rfl,h1,h2,h3⟩
 have h4:=(parsed_ok (fun z h=>hz z (List.mem_of_mem_take h)) h1).2.2
 obtain ⟨ta,tc,rfl,h5,h6⟩:=row_toks h2 h4
 rw [tkOf_is h1]
 exact ⟨ta,_,tc,rfl,h3,rfl,h5,h6⟩
section
variable {x0:World} {kind pp pb gw c1 c2 lo hi:Nat} {v0:Value} {m f:Nat} {L:List Bool} {ts:List T} {last:Bool} {pv:Value} {xb:Nat} {ta:Option Addr} {tc:Nat} {own:Value} {z:World}
theorem ZB.wr (hE:PutEnv x0 kind pp pb gw c1 c2 lo hi v0 m f L) (h:ZB x0 ts last pv c1 c2 xb ta tc own z):WrAt z v0 pb L z:=⟨v0,m,f,hE.wok.below h.bel,hE.f7,Chg.refl _ _ _⟩
theorem zb_stored (hE:PutEnv x0 kind pp pb gw c1 c2 lo hi v0 m f L) {zs:List Nat} {pa:Option Addr} {pc:Nat} (h:ZB x0 ts last (.slice pa zs.length pc) c1 c2 xb ta tc own z)
  (hr:(pa=none∧pc=0∧zs=[])∨∃ ad,pa=some ad∧(zs=[]∨Safe x0 v0 pb ad.block)∧∀ (j:Nat) u,(zs.map bv)[j]?=some u→x0.cell? (ad.add j)=some u) (hz:∀ z∈zs,z<256) (hn:zs.length≤65535) :
  Calls Tryz.prog 21 #[.pointer (some ⟨xb,0,none⟩),.pointer (some ⟨pb,0,none⟩)] z fun e w'=>e=.returned (.tuple #[])∧WrAt x0 v0 pb (L++storedB zs last.toNat L.length) w'∧PackAt w' pp pb kind gw c1 c2:=by
 refine (putStored_ok xb pb zs pa pc last _ _ _ _ z z v0 L (h.wr hE) (hE.new_safe h.ge (heap_lt h.blk)) h.blk ?_ hz hn (by have:=hE.len;omega)).mono ?_
 ·rcases hr with h1 | ⟨ad,h1,h2,h3⟩
  ·exact .inl h1
  ·exact .inr ⟨ad,h1,h2.imp id (fun s=>safe_on s h.bel.size),fun j u hj=>cell_stays h.bel (h3 j u hj)⟩
 ·rintro e w' ⟨rfl,k⟩
  exact ⟨rfl,hE.fin h.bel k⟩
theorem zb_fixed (hE:PutEnv x0 kind pp pb gw c1 c2 lo hi v0 m f L) (h:ZB x0 ts last pv c1 c2 xb ta tc own z) (hto:TokBy fixedL fixedD ts) :
  Calls Tryz.prog 23 #[.pointer (some ⟨xb,0,none⟩),.pointer (some ⟨pb,0,none⟩)] z fun e w'=>e=.returned (.tuple #[])∧WrAt x0 v0 pb (L++fixedB ts last.toNat) w'∧PackAt w' pp pb kind gw c1 c2:=by
 refine (putFixed_ok fixedL fixedD ts ta tc c1 c2 lo hi xb pb last pv own z z v0 L (h.wr hE) (hE.new_safe h.ge (heap_lt h.blk)) h.blk (hE.codes_on h.bel) (Nat.le_trans hE.hi_le h.bel.size) (fun k h1 h2=>safe_on (hE.shi k h1 h2) h.bel.size) h.tok (fun ad ha _=>hE.new_safe (h.far ad ha).1 (h.far ad ha).2.1) hto (by have:=hE.len;omega)).mono ?_
 rintro e w' ⟨rfl,k⟩
 exact ⟨rfl,hE.fin h.bel k⟩
theorem zb_wstored {n pc:Nat} {pa:Option Addr} (h:ZB x0 ts last (.slice pa n pc) c1 c2 xb ta tc own z) (hn:n≤65535) (at_:Nat) (ha:at_≤1000000000000000) :
  Calls Tryz.prog 20 #[.pointer (some ⟨xb,0,none⟩),.int .i64 (at_:Int)] z fun e w'=>e=.returned (.int .i64 (storedBits n at_:Int))∧w'=z :=
 weighStored_ok xb at_ n pa pc last _ _ _ _ z h.blk hn ha
theorem zb_wfixed (hE:PutEnv x0 kind pp pb gw c1 c2 lo hi v0 m f L) (h:ZB x0 ts last pv c1 c2 xb ta tc own z) (hto:TokBy fixedL fixedD ts) (at_:Int) (last':Nat) :
  Calls Tryz.prog 22 #[.pointer (some ⟨xb,0,none⟩),.int .i64 at_] z fun e w'=>e=.returned (.int .i64 ((fixedB ts last').length:Int))∧Below z.heap.size z w':=by
 have e:(fixedB ts last').length=3+(tbits fixedL fixedD ts++wb fixedL 256).length:=by unfold fixedB;rw [List.length_append];simp [head,nb_length]
 rw [e]
 exact weighFixed_ok fixedL fixedD ts ta tc c1 c2 lo hi xb at_ last pv own z h.blk (hE.codes_on h.bel) (Nat.le_trans hE.hi_le h.bel.size) h.tok hto
structure QB (x0:World) (ts:List T) (last:Bool) (pv:Value) (c1 c2 xb:Nat) (z:World):Prop where
 is_:∃ ta tc ob o1 o2 wB,ZB x0 ts last pv c1 c2 xb ta tc (.pointer (some ⟨ob,0,none⟩)) z∧OwnAt wB z ob ts o1 o2∧x0.heap.size≤wB.heap.size
theorem zb_told (hE:PutEnv x0 kind pp pb gw c1 c2 lo hi v0 m f L) (h:QB x0 ts last pv c1 c2 xb z) {out:List Nat} (hok:Oks out ts) (hlen:ts.length≤1000000000) :
  Calls Tryz.prog 25 #[.pointer (some ⟨xb,0,none⟩),.pointer (some ⟨pb,0,none⟩)] z fun e w'=>e=.returned (.tuple #[])∧WrAt x0 v0 pb (L++toldB (plOf ts) ts last.toNat) w'∧PackAt w' pp pb kind gw c1 c2:=by
 obtain ⟨ta,tc,ob,o1,o2,wB,h,ho,hB⟩:=h.is_
 refine (putTold_ok ts ta tc xb pb ob o1 o2 last pv _ _ wB z z v0 L (h.wr hE) (hE.new_safe h.ge (heap_lt h.blk)) h.blk ho (fun k h1 h2=>hE.new_safe (Nat.le_trans hB h1) h2) h.tok (fun ad ha _=>hE.new_safe (h.far ad ha).1 (h.far ad ha).2.1) (own_good hok hlen) hE.len).mono ?_
 rw [told_bits hok hlen]
 rintro e w' ⟨rfl,k⟩
 exact ⟨rfl,hE.fin h.bel k⟩
structure S1B (y:World) (ts:List T) (last:Bool) (pv:Value) (c1 c2 xb:Nat) (ta:Option Addr) (tc p q:Nat) (z:World):Prop where
 ge:y.heap.size≤p
 le:q≤z.heap.size
 chb:Chb xb y z
 own:∃ ob o1 o2 wB wT,wB.heap.size=p∧wT.heap.size=q∧OwnAt wB wT ob ts o1 o2∧(∀ k,p≤k→k<q→z.heap[k]?=wT.heap[k]?)∧BlkAt z xb last pv (.slice ta ts.length tc) (.pointer (some ⟨c1,0,none⟩)) (.pointer (some ⟨c2,0,none⟩)) (.pointer (some ⟨ob,0,none⟩))
theorem S1B.alloc {y z:World} {p q:Nat} (h:S1B y ts last pv c1 c2 xb ta tc p q z) (o:Obj):S1B y ts last pv c1 c2 xb ta tc p q (z.alloc o):=by
 obtain ⟨ob,o1,o2,wB,wT,e1,e2,e3,e4,e5⟩:=h.own
 have hz:∀ k,k<z.heap.size→(z.alloc o).heap[k]?=z.heap[k]?:=fun k hk=>Below.heap_alloc _ _ _ hk
 refine ⟨h.ge,by have:=h.le;simp;omega,⟨h.chb.os,h.chb.tape,h.chb.output,by have:=h.chb.size;simp;omega,fun k hk hn=>(hz k (Nat.lt_of_lt_of_le hk h.chb.size)).trans (h.chb.keep k hk hn)⟩,ob,o1,o2,wB,wT,e1,e2,e3,fun k h1 h2=>(hz k (Nat.lt_of_lt_of_le h2 h.le)).trans (e4 k h1 h2),?_⟩
 unfold BlkAt at e5 ⊢
 rw [hz xb (heap_lt e5)]
 exact e5
theorem S1B.set {y z:World} {p q:Nat} (h:S1B y ts last pv c1 c2 xb ta tc p q z) (hxb:xb<y.heap.size) (k o:Nat) (v:Value) (hk:y.heap.size≤k) (hpq:k<p∨q≤k):S1B y ts last pv c1 c2 xb ta tc p q (z.setCell ⟨k,o,none⟩ v):=by
 obtain ⟨ob,o1,o2,wB,wT,e1,e2,e3,e4,e5⟩:=h.own
 have hz:∀ j,j≠k→(z.setCell ⟨k,o,none⟩ v).heap[j]?=z.heap[j]?:=fun j hj=>heap_setCell_other _ _ _ _ hj
 refine ⟨h.ge,by rw [World.size_setCell];exact h.le,⟨h.chb.os,h.chb.tape,h.chb.output,by rw [World.size_setCell];exact h.chb.size,fun j hj hn=>(hz j (by omega)).trans (h.chb.keep j hj hn)⟩,ob,o1,o2,wB,wT,e1,e2,e3,fun j h1 h2=>(hz j (by omega)).trans (e4 j h1 h2),?_⟩
 unfold BlkAt at e5 ⊢
 rw [hz xb (by omega)]
 exact e5
theorem S1B.drewN {y z:World} {p q:Nat} (h:S1B y ts last pv c1 c2 xb ta tc p q z) (m:Nat):S1B y ts last pv c1 c2 xb ta tc p q (z.drewN m):=⟨h.ge,h.le,⟨h.chb.os,h.chb.tape,h.chb.output,h.chb.size,h.chb.keep⟩,h.own⟩
theorem S1B.qb {y z:World} {p q:Nat} (hy:ZB x0 ts last pv c1 c2 xb ta tc own y) (h:S1B y ts last pv c1 c2 xb ta tc p q z):QB x0 ts last pv c1 c2 xb z:=by
 obtain ⟨ob,o1,o2,wB,wT,rfl,rfl,e3,e4,e5⟩:=h.own
 have hle:=hy.bel.size
 refine ⟨ta,tc,ob,o1,o2,wB,⟨?_,hy.ge,e5,hy.tok.keep fun ad ha _=>h.chb.keep _ (hy.far ad ha).2.1 (hy.far ad ha).2.2,fun ad ha=>⟨(hy.far ad ha).1,Nat.lt_of_lt_of_le (hy.far ad ha).2.1 h.chb.size,(hy.far ad ha).2.2⟩⟩,e3.keep e4 h.le,Nat.le_trans hle h.ge⟩
 exact hy.bel.trans ⟨h.chb.os,h.chb.tape,h.chb.output,h.chb.size,fun k hk=>h.chb.keep k (by omega) (by have:=hy.ge;omega)⟩
theorem zb_wtold {y z:World} (hy:ZB x0 ts last pv c1 c2 xb ta tc (.pointer none) y) (hb:Below y.heap.size y z) {out:List Nat} (hok:Oks out ts) (hlen:ts.length≤1000000000) (at_:Int) (last':Nat) :
  Calls Tryz.prog 24 #[.pointer (some ⟨xb,0,none⟩),.int .i64 at_] z fun e w'=>e=.returned (.int .i64 ((toldB (plOf ts) ts last').length:Int))∧S1B y ts last pv c1 c2 xb ta tc z.heap.size w'.heap.size w'∧Keep xb z w':=by
 have hz:=hy.on hb
 have e:(toldB (plOf ts) ts last').length=3+(fbits (oF ts)++wbits (oZ ts) (oR ts)).length+(tbits (oX ts) (oY ts) ts++wb (oX ts) 256).length:=by
  rw [← told_bits hok hlen last',List.length_append,List.length_append]
  simp [head,nb_length]
  omega
 rw [e]
 refine (weighTold_ok ts ta tc xb at_ last pv _ _ z hz.blk hz.tok (fun ad ha _=>(hz.far ad ha).2.2) (own_good hok hlen)).mono ?_
 rintro en w' ⟨ob,o1,o2,rfl,k1,k2,k3⟩
 refine ⟨rfl,⟨hb.size,Nat.le_refl _,(Chb.of_below hb).trans k3,ob,o1,o2,z,w',rfl,rfl,k2,fun _ _ _=>rfl,k1⟩,k3.size,fun k h1 h2=>k3.keep k h1 h2⟩
end
end W4
namespace W4
open Go.RowKit Mth Infl Defl
theorem put_gen (K OFF LEN CAP I F:Nat) (hK:((K:Int) != 1)=true) (hway:∀ g,wayV g K=.slice (some ⟨g,OFF,none⟩) LEN CAP) (hI:(I:Int)<(LEN:Int)) (hcall:∀ (args:Array Value) (x:World),Sem.run Tryz.prog (callFunc F args) x=.ok (.enter F args) x) (hwc:wayCells[OFF+I*2+1]?=some (.func (.func F) #[] #[])) (pp pb gw c1 c2 from_ n:Nat) (a:Option Addr) (c:Nat) (pa:Option Addr) (N pc:Nat) (last:Bool) (w:World) (TT:Option Addr→Nat→Nat→World→World→Prop) (R Q:Nat→World→Prop) (Fin:World→Prop) (m:Int)
  (hp:PackAt w pp pb K gw c1 c2)
  (hsl:∀ x,(Instr.slice 22 (.slice a n c) (some (.int .i64 (from_:Int))) none none).run Tryz.prog x=.ok (.slice pa N pc) x)
  (hparse:Hid (∀ x,Below w.heap.size w x→Calls Tryz.prog 29 #[.slice a n c,.int .i64 (from_:Int),.int .i64 32768,.int .i64 3,.int .i64 258] x fun e x'=>∃ ta tl tc,e=.returned (.tuple #[.slice ta tl tc,.int .i64 0])∧Below x.heap.size x x'∧TT ta tl tc x x'))
  (hR:Hid (∀ x x' xb ta tl tc,Below w.heap.size w x→BlkAt x xb last (.slice pa N pc) (.slice none 0 0) (.pointer (some ⟨c1,0,none⟩)) (.pointer (some ⟨c2,0,none⟩)) (.pointer none)→w.heap.size≤xb→Below x.heap.size x x'→TT ta tl tc x x'→R xb (x'.setCell ⟨xb,2,none⟩ (.slice ta tl tc))))
  (hRp:Hid (∀ xb x,R xb x→PackAt x pp pb K gw c1 c2)) (hRd:Hid (∀ xb x,R xb x→R xb x.drew))
  (hch:Hid (∀ xb x,R xb x→Calls Tryz.prog 30 #[.pointer (some ⟨pp,0,none⟩),.pointer (some ⟨xb,0,none⟩)] x fun e x'=>e=.returned (.agg #[.int .i64 (I:Int),.int .i64 m])∧Q xb x'))
  (hQp:Hid (∀ xb x,Q xb x→PackAt x pp pb K gw c1 c2))
  (hpw:Hid (∀ xb x,Q xb x→Calls Tryz.prog F #[.pointer (some ⟨xb,0,none⟩),.pointer (some ⟨pb,0,none⟩)] x fun e x'=>e=.returned (.tuple #[])∧Fin x'∧PackAt x' pp pb K gw c1 c2)) :
  Calls Tryz.prog 12 #[.pointer (some ⟨pp,0,none⟩),.slice a n c,.int .i64 (from_:Int),.bool last] w fun e w'=>e=.returned (.tuple #[])∧Fin w':=by
 obtain ⟨hp1,hp2⟩:=hp
 have p1:w.cell? ⟨pp,1,none⟩=some (.int .i64 (K:Int)):=by simp [World.cell?,hp1]
 go_enter Tryz.func12,Tryz.ntmps12
 go_wp2_with fail
 refine wp_region_noPanic ?_
 refine wp_region_held_drew (S:=fun x=>PackAt x pp pb K gw c1 c2) (by kernel_rfl) ⟨hp1,hp2⟩ (fun hHeld=>?_)
 refine hT 0 9 rfl rfl hHeld nPp (v:=?_) (fun x hSx=>?_) ?_
 rotate_left 1
 ·go_simp <;> with_reducible rfl
 simp only [sA,sB]
 refine hT 1 10 rfl rfl hHeld nPp (v:=?_) (fun x hSx=>?_) ?_
 rotate_left 1
 ·go_simp <;> with_reducible rfl
 simp only [sA,sB]
 refine hT 2 11 rfl rfl hHeld nPp (v:=?_) (fun x hSx=>?_) ?_
 rotate_left 1
 ·go_simp <;> with_reducible rfl
 simp only [sA,sB]
 refine hT 3 12 rfl rfl hHeld nPp (v:=?_) (fun x hSx=>?_) ?_
 rotate_left 1
 ·go_simp <;> with_reducible rfl
 simp only [sA,sB]
 refine hT 4 13 rfl rfl hHeld nPp (v:=?_) (fun x hSx=>?_) ?_
 rotate_left 1
 ·go_simp <;> with_reducible rfl
 simp only [sA,sB]
 refine hT 5 14 rfl rfl hHeld nPp (v:=?_) (fun x hSx=>?_) ?_
 rotate_left 1
 ·go_simp <;> with_reducible rfl
 simp only [sA,sB]
 refine hT 6 15 rfl rfl hHeld nPp (v:=?_) (fun x hSx=>?_) ?_
 rotate_left 1
 ·go_simp <;> with_reducible rfl
 simp only [sA,sB]
 refine hT 7 16 rfl rfl hHeld nPp (v:=?_) (fun x hSx=>?_) ?_
 rotate_left 1
 ·have q3:x.cell? ⟨pp,3,none⟩=some (.pointer (some ⟨c1,0,none⟩)):=(by simp [World.cell?,hSx.1]);have q4:x.cell? ⟨pp,4,none⟩=some (.pointer (some ⟨c2,0,none⟩)):=(by simp [World.cell?,hSx.1]);clear hSx;go_simp <;> with_reducible rfl
 simp only [sA,sB]
 refine hT 8 17 rfl rfl hHeld nPp (v:=?_) (fun x hSx=>?_) ?_
 rotate_left 1
 ·go_simp <;> with_reducible rfl
 simp only [sA,sB]
 refine held_one 9 18 (by kernel_rfl) rfl rfl (by rfl) (v:=.pointer (some ⟨w.heap.size,0,none⟩)) (w':=(w.alloc (.cells #[.bool last,.slice pa N pc,.slice none 0 0,.pointer (some ⟨c1,0,none⟩),.pointer (some ⟨c2,0,none⟩),.pointer none] 65)).drew) ?_ ?_ ?_
 ·first | (go_simp;done) | (go_simp <;> first | exact ⟨rfl,rfl⟩ | rfl)
 ·exact ⟨by show (w.alloc _).heap[pp]?=_;rw [Below.heap_alloc _ _ _ (heap_lt hp1)];exact hp1,by show (w.alloc _).heap[gw]?=_;rw [Below.heap_alloc _ _ _ (heap_lt hp2)];exact hp2⟩
 simp only [sA,sB]
 obtain ⟨xb,hxb⟩:∃ xb,xb=w.heap.size:=⟨_,rfl⟩
 obtain ⟨W1,hW1⟩:∃ W1,W1=(w.alloc (.cells #[.bool last,.slice pa N pc,.slice none 0 0,.pointer (some ⟨c1,0,none⟩),.pointer (some ⟨c2,0,none⟩),.pointer none] 65)).drew:=⟨_,rfl⟩
 have HX1:Hid (BlkAt W1 xb last (.slice pa N pc) (.slice none 0 0) (.pointer (some ⟨c1,0,none⟩)) (.pointer (some ⟨c2,0,none⟩)) (.pointer none)):=qz (by rw [hW1,hxb];exact heap_alloc_new _ _)
 have HB1:Hid (Below w.heap.size w W1):=qz (by rw [hW1];exact below_drewN ((Below.refl _ _).alloc (Nat.le_refl _) _) 1)
 have HP1:Hid (PackAt W1 pp pb K gw c1 c2):=qz ⟨by rw [(uh HB1).block pp (heap_lt hp1)];exact hp1,by rw [(uh HB1).block gw (heap_lt hp2)];exact hp2⟩
 rw [← hW1,← hxb]
 have HXB:=qz hxb
 clear hW1 hxb hHeld
 refine held_one 10 8 (by kernel_rfl) rfl rfl (by rfl) (v:=.pointer (some ⟨xb,0,none⟩)) (w':=W1) ?_ (uh HP1) ?_
 ·first | (go_simp;done) | (go_simp <;> first | exact ⟨rfl,rfl⟩ | rfl)
 simp only [sA,sB]
 refine wpAnyH_done (by kernel_rfl) ?_ _
 refine NoPanic.normal ?_
 have p1:W1.cell? ⟨pp,1,none⟩=some (.int .i64 (K:Int)):=by simp [World.cell?,(uh HP1).1]
 have HPA:=qz (uh hparse W1 (uh HB1))
 have HRR:Hid (∀ x' ta tl tc,Below W1.heap.size W1 x'→TT ta tl tc W1 x'→R xb (x'.setCell ⟨xb,2,none⟩ (.slice ta tl tc))):=qz (fun x' ta tl tc h1 h2=>uh hR W1 x' xb ta tl tc (uh HB1) (uh HX1) (by rw [uh HXB];exact Nat.le_refl _) h1 h2)
 clear hparse hR
 go_wp2_with fail
 refine (uh HPA).mono ?_
 rintro e X1 ⟨ta,tl,tc,rfl,k1,k2⟩
 obtain ⟨WR,hWR⟩:∃ WR,WR=X1.setCell ⟨xb,2,none⟩ (.slice ta tl tc):=⟨_,rfl⟩
 have HR2:Hid (R xb WR):=qz (by rw [hWR];exact uh HRR X1 ta tl tc k1 k2)
 have hx2:=(k1.block xb (heap_lt (uh HX1))).trans (uh HX1)
 have hcx:X1.cell? ⟨xb,2,none⟩=some (.slice none 0 0):=by simp [World.cell?,hx2]
 have hfx:X1.frozen? ⟨xb,2,none⟩=false:=by simp [World.frozen?,hx2]
 clear k1 k2 hx2 HPA HRR HX1 HB1 HP1 p1
 go_wp2_with fail
 rw [← hWR]
 clear hWR hcx hfx
 go_wp2_with fail
 refine wp_region_noPanic ?_
 refine wp_region_held_drew (S:=fun x=>PackAt x pp pb K gw c1 c2) (by kernel_rfl) (uh hRp xb _ (uh hRd _ _ (uh HR2))) (fun hHeld=>?_)
 obtain ⟨W2,hW2⟩:∃ W2,W2=WR.drew:=⟨_,rfl⟩
 have HR3:Hid (R xb W2):=qz (by rw [hW2];exact uh hRd _ _ (uh HR2))
 show wpAnyH _ _ _ _ _ _ _ _ WR.drew
 rw [← hW2] at hHeld ⊢
 clear hW2 HR2 hRd
 refine hT 0 33 rfl rfl hHeld nPp (v:=?_) (fun x hSx=>?_) ?_
 rotate_left 1
 ·go_simp <;> with_reducible rfl
 simp only [sA,sB]
 refine hT 1 34 rfl rfl hHeld nPp (v:=?_) (fun x hSx=>?_) ?_
 rotate_left 1
 ·go_simp <;> with_reducible rfl
 simp only [sA,sB]
 refine hT 2 35 rfl rfl hHeld nPp (v:=?_) (fun x hSx=>?_) ?_
 rotate_left 1
 ·go_simp <;> with_reducible rfl
 simp only [sA,sB]
 refine hT 3 36 rfl rfl hHeld nPp (v:=?_) (fun x hSx=>?_) ?_
 rotate_left 1
 ·have q2:x.cell? ⟨pp,2,none⟩=some (.slice (some ⟨gw,OFF,none⟩) LEN CAP):=(by rw [← hway gw];simp only [World.cell?,hSx.1];rfl);clear hSx;go_simp <;> with_reducible rfl
 simp only [sA,sB]
 refine hT 4 37 rfl rfl hHeld nPp (v:=?_) (fun x hSx=>?_) ?_
 rotate_left 1
 ·go_simp <;> with_reducible rfl
 simp only [sA,sB]
 refine hT 5 38 rfl rfl hHeld nPp (v:=?_) (fun x hSx=>?_) ?_
 rotate_left 1
 ·go_simp <;> with_reducible rfl
 simp only [sA,sB]
 refine hT 11 44 rfl rfl hHeld nPp (v:=?_) (fun x hSx=>?_) ?_
 rotate_left 1
 ·go_simp <;> with_reducible rfl
 simp only [sA,sB]
 refine hT 12 45 rfl rfl hHeld nPp (v:=?_) (fun x hSx=>?_) ?_
 rotate_left 1
 ·go_simp <;> with_reducible rfl
 simp only [sA,sB]
 refine hT 13 46 rfl rfl hHeld nPp (v:=?_) (fun x hSx=>?_) ?_
 rotate_left 1
 ·go_simp <;> with_reducible rfl
 simp only [sA,sB]
 refine hT 14 47 rfl rfl hHeld nPp (v:=?_) (fun x hSx=>?_) ?_
 rotate_left 1
 ·go_simp <;> with_reducible rfl
 simp only [sA,sB]
 refine hT 15 48 rfl rfl hHeld nPp (v:=?_) (fun x hSx=>?_) ?_
 rotate_left 1
 ·have q0:x.cell? ⟨pp,0,none⟩=some (.pointer (some ⟨pb,0,none⟩)):=(by simp only [World.cell?,hSx.1];rfl);clear hSx;go_simp <;> with_reducible rfl
 simp only [sA,sB]
 refine held_enter 6 39 (by kernel_rfl) rfl rfl (by rfl) (by go_simp <;> exact ⟨rfl,rfl⟩) ?_
 refine (uh hch xb W2 (uh HR3)).mono ?_
 rintro e W3 ⟨rfl,q3⟩
 have HQ3:=qz q3
 have HP3:Hid (PackAt W3 pp pb K gw c1 c2):=qz (uh hQp xb W3 q3)
 clear q3 HR3
 refine ⟨_,rfl,uh HP3,?_⟩
 simp only [sA,sB]
 have fld:=fun x=>field69 x (I:Int) m
 refine hT 7 40 rfl rfl (uh HP3) nPp (v:=?_) (fun x hSx=>?_) ?_
 rotate_left 1
 ·go_simp <;> with_reducible rfl
 simp only [sA,sB]
 refine hT 8 41 rfl rfl (uh HP3) nPp (v:=?_) (fun x hSx=>?_) ?_
 rotate_left 1
 ·go_simp <;> with_reducible rfl
 simp only [sA,sB]
 refine hT 9 42 rfl rfl (uh HP3) nPp (v:=?_) (fun x hSx=>?_) ?_
 rotate_left 1
 ·go_simp <;> with_reducible rfl
 simp only [sA,sB]
 refine hT 10 43 rfl rfl (uh HP3) nPp (v:=?_) (fun x hSx=>?_) ?_
 rotate_left 1
 ·have q1:x.cell? ⟨gw,OFF+I*2+1,none⟩=some (.func (.func F) #[] #[]):=(by simp only [World.cell?,hSx.2];exact hwc);clear hSx;go_simp <;> with_reducible rfl
 simp only [sA,sB]
 refine held_enter 16 49 (by kernel_rfl) rfl rfl (by rfl) (by go_simp <;> exact ⟨rfl,rfl⟩) ?_
 refine (uh hpw xb W3 (uh HQ3)).mono ?_
 rintro e W4 ⟨rfl,k1,k2⟩
 have HK1:=qz k1
 refine ⟨_,rfl,k2,?_⟩
 simp only [sA,sB]
 clear k1 k2
 refine wpAnyH_done (by kernel_rfl) ?_ _
 refine NoPanic.normal ?_
 go_wp2_with fail
 go_end0
 exact ⟨rfl,uh HK1⟩
end W4
namespace W4
open Go.RowKit Mth Infl Defl
theorem fixed_pos (ts:List T) (l:Nat):3≤(fixedB ts l).length:=by unfold fixedB;rw [List.length_append];simp [head,nb_length]
theorem told_pos (ts:List T) (l:Nat):3≤(toldB (plOf ts) ts l).length:=by unfold toldB;rw [List.length_append];simp [head,nb_length]
section
variable {x0:World} {pp pb gw c1 c2 lo hi:Nat} {v0:Value} {m f:Nat} {L:List Bool} {ts:List T} {last:Bool} {pv:Value} {xb:Nat} {ta:Option Addr} {tc:Nat} {y:World}
theorem ch_fixed (hE:PutEnv x0 2 pp pb gw c1 c2 lo hi v0 m f L) (h:ZB x0 ts last pv c1 c2 xb ta tc (.pointer none) y) (hto:TokBy fixedL fixedD ts) :
  Calls Tryz.prog 30 #[.pointer (some ⟨pp,0,none⟩),.pointer (some ⟨xb,0,none⟩)] y fun e y'=>e=.returned (.agg #[.int .i64 0,.int .i64 ((fixedB ts last.toNat).length:Int)])∧ZB x0 ts last pv c1 c2 xb ta tc (.pointer none) y':=by
 have hpk:=hE.pack_on h.bel
 have key:∀ z,Below y.heap.size y z→z.heap[pp]?=y.heap[pp]?∧z.heap[gw]?=y.heap[gw]?:=fun z hz=>⟨hz.block _ (heap_lt hpk.1),hz.block _ (heap_lt hpk.2)⟩
 refine (choose_two 1 (fun _=>22) (fun _=>23) (fun _=>((fixedB ts last.toNat).length:Int)) (fun _=>0) (fun i=>if i=0 then 0 else ((fixedB ts last.toNat).length:Int)) (fun z=>Below y.heap.size y z) (fun _ _ z=>Below y.heap.size y z) pp pb gw 2 2 xb (L.length:Int) y (by omega) (by omega) ⟨rfl,rfl⟩ ?_ ?_ (fun _=>Tryz.call22) ?_ ?_ ?_ ?_ (fun z hz=>hz.size) (fun z o hz=>hz.alloc hz.size _) (fun z k o v hz hk=>hz.setCell hk _) (fun z q hz=>below_drewN hz q) (fun _ _ z o hz=>hz.alloc hz.size _) (fun _ _ z k o v hz hk _=>hz.setCell hk _) (fun _ _ z q hz=>below_drewN hz q) ?_ ?_ ?_ (heap_lt h.blk) (Below.refl _ _)).mono ?_
 ·intro i hi;obtain rfl:i=0:=by omega
  simp
 ·intro i h1 h2
  rw [if_neg (by omega),beq_eq_false_iff_ne]
  have:=fixed_pos ts last.toNat
  omega
 ·intro z hz;simp only [World.cell?,(key z hz).1,hpk.1];rfl
 ·intro i z hi hz;obtain rfl:i=0:=by omega
  constructor <;> (simp only [World.cell?,(key z hz).2,hpk.2];rfl)
 ·intro z hz;simp only [World.cell?,(key z hz).1,hpk.1];rfl
 ·intro _ _ z hz;simp only [World.cell?,(key z hz).1,hpk.1];rfl
 ·intro z hz
  exact len_ok pb m f false v0 L z (hE.wok.below (h.bel.trans (hz.mono h.bel.size))) (by have:=hE.len;omega) hE.f7
 ·intro i z hi hz;omega
 ·intro i z hi hz
  refine (zb_wfixed hE (h.on hz) hto _ last.toNat).mono ?_
  rintro e z' ⟨rfl,k⟩
  exact ⟨rfl,hz.trans (k.mono hz.size),k.size,fun j hj _=>k.block j hj⟩
 ·rintro e y' ⟨rfl,_,_,k⟩
  exact ⟨rfl,h.on k⟩
theorem ch_told (hE:PutEnv x0 3 pp pb gw c1 c2 lo hi v0 m f L) (h:ZB x0 ts last pv c1 c2 xb ta tc (.pointer none) y) {out:List Nat} (hok:Oks out ts) (hlen:ts.length≤1000000000) :
  Calls Tryz.prog 30 #[.pointer (some ⟨pp,0,none⟩),.pointer (some ⟨xb,0,none⟩)] y fun e y'=>e=.returned (.agg #[.int .i64 0,.int .i64 ((toldB (plOf ts) ts last.toNat).length:Int)])∧QB x0 ts last pv c1 c2 xb y':=by
 have hpk:=hE.pack_on h.bel
 have hxb:=heap_lt h.blk
 have hpx:pp≠xb:=by have:=h.ge;have:=hE.spp.1;omega
 have key:∀ z,Below y.heap.size y z→z.heap[pp]?=y.heap[pp]?∧z.heap[gw]?=y.heap[gw]?:=fun z hz=>⟨hz.block _ (heap_lt hpk.1),hz.block _ (heap_lt hpk.2)⟩
 refine (choose_two 1 (fun _=>24) (fun _=>25) (fun _=>((toldB (plOf ts) ts last.toNat).length:Int)) (fun _=>0) (fun i=>if i=0 then 0 else ((toldB (plOf ts) ts last.toNat).length:Int)) (fun z=>Below y.heap.size y z) (S1B y ts last pv c1 c2 xb ta tc) pp pb gw 4 1 xb (L.length:Int) y (by omega) (by omega) ⟨rfl,rfl⟩ ?_ ?_ (fun _=>Tryz.call24) ?_ ?_ ?_ ?_ (fun z hz=>hz.size) (fun z o hz=>hz.alloc hz.size _) (fun z k o v hz hk=>hz.setCell hk _) (fun z q hz=>below_drewN hz q) (fun p q z o hz=>hz.alloc o) (fun p q z k o v hz hk hpq=>hz.set hxb k o v hk hpq) (fun p q z m hz=>hz.drewN m) ?_ ?_ ?_ hxb (Below.refl _ _)).mono ?_
 ·intro i hi;obtain rfl:i=0:=by omega
  simp
 ·intro i h1 h2
  rw [if_neg (by omega),beq_eq_false_iff_ne]
  have:=told_pos ts last.toNat
  omega
 ·intro z hz;simp only [World.cell?,(key z hz).1,hpk.1];rfl
 ·intro i z hi hz;obtain rfl:i=0:=by omega
  constructor <;> (simp only [World.cell?,(key z hz).2,hpk.2];rfl)
 ·intro z hz;simp only [World.cell?,(key z hz).1,hpk.1];rfl
 ·intro p q z hz;simp only [World.cell?,hz.chb.keep pp (heap_lt hpk.1) hpx,hpk.1];rfl
 ·intro z hz
  exact len_ok pb m f false v0 L z (hE.wok.below (h.bel.trans (hz.mono h.bel.size))) (by have:=hE.len;omega) hE.f7
 ·intro i z hi hz;omega
 ·intro i z hi hz
  exact zb_wtold h hz hok hlen _ _
 ·rintro e y' ⟨rfl,p,q,k⟩
  exact ⟨rfl,k.qb h⟩
theorem ch_best (hE:PutEnv x0 0 pp pb gw c1 c2 lo hi v0 m f L) {n pc:Nat} {pa:Option Addr} (h:ZB x0 ts last (.slice pa n pc) c1 c2 xb ta tc (.pointer none) y) (hn:n≤65535) {out:List Nat} (hok:Oks out ts) (hlen:ts.length≤1000000000) (i2 m2 i3 m3:Int)
  (ht2:m2≠0) (ht3:m3≠0)
  (h2:(if ((fixedB ts last.toNat).length:Int)<(storedBits n L.length:Int) then ((1:Int),((fixedB ts last.toNat).length:Int)) else ((0:Int),(storedBits n L.length:Int)))=(i2,m2)) (h3:(if ((toldB (plOf ts) ts last.toNat).length:Int)<m2 then ((2:Int),((toldB (plOf ts) ts last.toNat).length:Int)) else (i2,m2))=(i3,m3)) :
  Calls Tryz.prog 30 #[.pointer (some ⟨pp,0,none⟩),.pointer (some ⟨xb,0,none⟩)] y fun e y'=>e=.returned (.agg #[.int .i64 i3,.int .i64 m3])∧QB x0 ts last (.slice pa n pc) c1 c2 xb y':=by
 have hpk:=hE.pack_on h.bel
 have hxb:=heap_lt h.blk
 have hpx:pp≠xb:=by have:=h.ge;have:=hE.spp.1;omega
 have key:∀ z,Below y.heap.size y z→z.heap[pp]?=y.heap[pp]?∧z.heap[gw]?=y.heap[gw]?:=fun z hz=>⟨hz.block _ (heap_lt hpk.1),hz.block _ (heap_lt hpk.2)⟩
 have hs1:1≤storedBits n L.length:=by unfold storedBits;omega
 refine (choose_two 3 (fun i=>if i=0 then 20 else if i=1 then 22 else 24) (fun i=>if i=0 then 21 else if i=1 then 23 else 25) (fun i=>if i=0 then (storedBits n L.length:Int) else if i=1 then ((fixedB ts last.toNat).length:Int) else ((toldB (plOf ts) ts last.toNat).length:Int)) (fun i=>if i=0 then 0 else if i=1 then 0 else if i=2 then i2 else i3) (fun i=>if i=0 then 0 else if i=1 then (storedBits n L.length:Int) else if i=2 then m2 else m3) (fun z=>Below y.heap.size y z) (S1B y ts last (.slice pa n pc) c1 c2 xb ta tc) pp pb gw 0 3 xb (L.length:Int) y (by omega) (by omega) ⟨rfl,rfl⟩ ?_ ?_ ?_ ?_ ?_ ?_ ?_ (fun z hz=>hz.size) (fun z o hz=>hz.alloc hz.size _) (fun z k o v hz hk=>hz.setCell hk _) (fun z q hz=>below_drewN hz q) (fun p q z o hz=>hz.alloc o) (fun p q z k o v hz hk hpq=>hz.set hxb k o v hk hpq) (fun p q z m hz=>hz.drewN m) ?_ ?_ ?_ hxb (Below.refl _ _)).mono ?_
 ·intro i hi
  have:i=0∨i=1∨i=2:=by omega
  rcases this with rfl | rfl | rfl
  ·rfl
  ·simpa using h2.symm
  ·simpa using h3.symm
 ·intro i h1' h2'
  rw [beq_eq_false_iff_ne]
  have:i=1∨i=2∨i=3:=by omega
  rcases this with rfl | rfl | rfl
  ·show (storedBits n L.length:Int)≠0
   omega
  ·exact ht2
  ·exact ht3
 ·intro i args x
  by_cases e0:i=0
  ·subst e0;exact Tryz.call20 args x
  ·by_cases e1:i=1
   ·subst e1;exact Tryz.call22 args x
   ·simp only [if_neg e0,if_neg e1]
    exact Tryz.call24 args x
 ·intro z hz;simp only [World.cell?,(key z hz).1,hpk.1];rfl
 ·intro i z hi hz
  have:i=0∨i=1∨i=2:=by omega
  rcases this with rfl | rfl | rfl <;> constructor <;> (simp only [World.cell?,(key z hz).2,hpk.2];rfl)
 ·intro z hz;simp only [World.cell?,(key z hz).1,hpk.1];rfl
 ·intro p q z hz;simp only [World.cell?,hz.chb.keep pp (heap_lt hpk.1) hpx,hpk.1];rfl
 ·intro z hz
  exact len_ok pb m f false v0 L z (hE.wok.below (h.bel.trans (hz.mono h.bel.size))) (by have:=hE.len;omega) hE.f7
 ·intro i z hi hz
  have:i=0∨i=1:=by omega
  rcases this with rfl | rfl
  ·refine (zb_wstored (h.on hz) hn L.length (by have:=hE.len;omega)).mono ?_
   rintro e z' ⟨rfl,rfl⟩
   exact ⟨rfl,hz,Nat.le_refl _,fun _ _ _=>rfl⟩
  ·refine (zb_wfixed hE (h.on hz) (fixed_by hok hlen) _ last.toNat).mono ?_
   rintro e z' ⟨rfl,k⟩
   exact ⟨rfl,hz.trans (k.mono hz.size),k.size,fun j hj _=>k.block j hj⟩
 ·intro i z hi hz
  obtain rfl:i=2:=by omega
  exact zb_wtold h hz hok hlen _ _
 ·rintro e y' ⟨rfl,p,q,k⟩
  exact ⟨rfl,k.qb h⟩
end
theorem last_of (zs:List Nat) (k fr:Nat):lastOf zs k fr=(decide (zs.length≤fr+k)).toNat:=by unfold lastOf;by_cases h:zs.length≤fr+k <;> simp [h]
theorem ende_is (zs:List Nat) (k fr:Nat) (h:fr<zs.length∨fr=0):fr≤ende zs k fr∧ende zs k fr≤zs.length∧ende zs k fr≤fr+k:=by unfold ende;omega
section
variable (zs:List Nat) (a:Option Addr) (c k:Nat) (w:World)
theorem putIs_two (ht:TextAt w a c zs) (hz:∀ z∈zs,z<256) (hc:zs.length≤c) (hcM:c≤9223372036854775807) (hk1:1≤k) (hk2:k≤65535) (hn:zs.length≤10000000) (hml:T6.ML w):PutIs 2 zs k (tkOf zs) plOf a c w:=by
 intro x v0 m f L pp pb gw c1 c2 lo hi fr e last he hw hf hL hen hlast hfr
 have hE:PutEnv x 2 pp pb gw c1 c2 lo hi v0 m f L:=⟨he.pack,hw,hf,he.spp,he.sgw,he.codes,he.shi,hL⟩
 obtain ⟨pa,pc,h1,h2⟩:=piece_text (k:=k) ht hc hcM hk1 he hfr
 obtain ⟨g1,g2,g3⟩:=ende_is zs k fr hfr
 subst hen
 obtain ⟨hok,hex,hlen⟩:=tkOf_ok hz g1 g2
 have hl9:(tkOf zs fr (ende zs k fr)).length≤1000000000:=by omega
 have HPA:∀ x1,Below x.heap.size x x1→_:=fun x1 hb=>parse_at (x:=x1) ht hz hc hn hml (he.bel.trans (hb.mono he.bel.size)) g1 g2
 have hpl:(piece zs k fr).length≤65535:=by rw [piece_length];omega
 have hpz:∀ z∈piece zs k fr,z<256:=fun z hz'=>hz z (List.mem_of_mem_take (List.mem_of_mem_drop hz'))
 have e0:ownB zs k 2 (tkOf zs) plOf fr L.length=fixedB (tkOf zs fr (ende zs k fr)) last.toNat:=by rw [hlast,← last_of];rfl
 rw [e0]
 refine put_gen 2 2 1 2 0 23 (by decide) (fun g=>rfl) (by decide) Tryz.call23 rfl pp pb gw c1 c2 fr (ende zs k fr) a c pa (piece zs k fr).length pc last x (TTp (tkOf zs fr (ende zs k fr))) (fun xb y=>∃ ta tc,ZB x (tkOf zs fr (ende zs k fr)) last (.slice pa (piece zs k fr).length pc) c1 c2 xb ta tc (.pointer none) y) (fun xb y=>∃ ta tc,ZB x (tkOf zs fr (ende zs k fr)) last (.slice pa (piece zs k fr).length pc) c1 c2 xb ta tc (.pointer none) y) (fun w'=>WrAt x v0 pb (L++fixedB (tkOf zs fr (ende zs k fr)) last.toNat) w') ((fixedB (tkOf zs fr (ende zs k fr)) last.toNat).length:Int) he.pack h1 (qz HPA) (qz fun x1 x' xb ta tl tc q1 q2 q3 q4 q5=>⟨ta,tc,zb_make q1 q2 q3 q4 q5⟩) (qz fun xb z ⟨ta,tc,h⟩=>hE.pack_on h.bel) (qz fun xb z ⟨ta,tc,h⟩=>⟨ta,tc,h.on (below_drewN (Below.refl _ _) 1)⟩) (qz ?_) (qz ?_) (qz ?_)
 ·rintro xb z ⟨ta,tc,h⟩
  refine (ch_fixed hE h (fixed_by hok hl9)).mono ?_
  rintro e z' ⟨rfl,q⟩
  exact ⟨rfl,ta,tc,q⟩
 ·rintro xb z ⟨ta,tc,h⟩
  exact hE.pack_on h.bel
 ·rintro xb z ⟨ta,tc,h⟩
  exact zb_fixed hE h (fixed_by hok hl9)
theorem putIs_three (ht:TextAt w a c zs) (hz:∀ z∈zs,z<256) (hc:zs.length≤c) (hcM:c≤9223372036854775807) (hk1:1≤k) (hk2:k≤65535) (hn:zs.length≤10000000) (hml:T6.ML w):PutIs 3 zs k (tkOf zs) plOf a c w:=by
 intro x v0 m f L pp pb gw c1 c2 lo hi fr e last he hw hf hL hen hlast hfr
 have hE:PutEnv x 3 pp pb gw c1 c2 lo hi v0 m f L:=⟨he.pack,hw,hf,he.spp,he.sgw,he.codes,he.shi,hL⟩
 obtain ⟨pa,pc,h1,h2⟩:=piece_text (k:=k) ht hc hcM hk1 he hfr
 obtain ⟨g1,g2,g3⟩:=ende_is zs k fr hfr
 subst hen
 obtain ⟨hok,hex,hlen⟩:=tkOf_ok hz g1 g2
 have hl9:(tkOf zs fr (ende zs k fr)).length≤1000000000:=by omega
 have HPA:∀ x1,Below x.heap.size x x1→_:=fun x1 hb=>parse_at (x:=x1) ht hz hc hn hml (he.bel.trans (hb.mono he.bel.size)) g1 g2
 have hpl:(piece zs k fr).length≤65535:=by rw [piece_length];omega
 have hpz:∀ z∈piece zs k fr,z<256:=fun z hz'=>hz z (List.mem_of_mem_take (List.mem_of_mem_drop hz'))
 have e0:ownB zs k 3 (tkOf zs) plOf fr L.length=toldB (plOf (tkOf zs fr (ende zs k fr))) (tkOf zs fr (ende zs k fr)) last.toNat:=by rw [hlast,← last_of];rfl
 rw [e0]
 refine put_gen 3 4 1 1 0 25 (by decide) (fun g=>rfl) (by decide) Tryz.call25 rfl pp pb gw c1 c2 fr (ende zs k fr) a c pa (piece zs k fr).length pc last x (TTp (tkOf zs fr (ende zs k fr))) (fun xb y=>∃ ta tc,ZB x (tkOf zs fr (ende zs k fr)) last (.slice pa (piece zs k fr).length pc) c1 c2 xb ta tc (.pointer none) y) (fun xb y=>QB x (tkOf zs fr (ende zs k fr)) last (.slice pa (piece zs k fr).length pc) c1 c2 xb y) (fun w'=>WrAt x v0 pb (L++toldB (plOf (tkOf zs fr (ende zs k fr))) (tkOf zs fr (ende zs k fr)) last.toNat) w') ((toldB (plOf (tkOf zs fr (ende zs k fr))) (tkOf zs fr (ende zs k fr)) last.toNat).length:Int) he.pack h1 (qz HPA) (qz fun x1 x' xb ta tl tc q1 q2 q3 q4 q5=>⟨ta,tc,zb_make q1 q2 q3 q4 q5⟩) (qz fun xb z ⟨ta,tc,h⟩=>hE.pack_on h.bel) (qz fun xb z ⟨ta,tc,h⟩=>⟨ta,tc,h.on (below_drewN (Below.refl _ _) 1)⟩) (qz ?_) (qz ?_) (qz ?_)
 ·rintro xb z ⟨ta,tc,h⟩
  exact ch_told hE h hok hl9
 ·rintro xb z ⟨ta,tc,ob,o1,o2,wB,h,_⟩
  exact hE.pack_on h.bel
 ·rintro xb z h
  exact zb_told hE h hok hl9
theorem putIs_zero (ht:TextAt w a c zs) (hz:∀ z∈zs,z<256) (hc:zs.length≤c) (hcM:c≤9223372036854775807) (hk1:1≤k) (hk2:k≤65535) (hn:zs.length≤10000000) (hml:T6.ML w):PutIs 0 zs k (tkOf zs) plOf a c w:=by
 intro x v0 m f L pp pb gw c1 c2 lo hi fr e last he hw hf hL hen hlast hfr
 have hE:PutEnv x 0 pp pb gw c1 c2 lo hi v0 m f L:=⟨he.pack,hw,hf,he.spp,he.sgw,he.codes,he.shi,hL⟩
 obtain ⟨pa,pc,h1,h2⟩:=piece_text (k:=k) ht hc hcM hk1 he hfr
 obtain ⟨g1,g2,g3⟩:=ende_is zs k fr hfr
 subst hen
 obtain ⟨hok,hex,hlen⟩:=tkOf_ok hz g1 g2
 have hl9:(tkOf zs fr (ende zs k fr)).length≤1000000000:=by omega
 have HPA:∀ x1,Below x.heap.size x x1→_:=fun x1 hb=>parse_at (x:=x1) ht hz hc hn hml (he.bel.trans (hb.mono he.bel.size)) g1 g2
 have hpl:(piece zs k fr).length≤65535:=by rw [piece_length];omega
 have hpz:∀ z∈piece zs k fr,z<256:=fun z hz'=>hz z (List.mem_of_mem_take (List.mem_of_mem_drop hz'))
 have e0:ownB zs k 0 (tkOf zs) plOf fr L.length=fewest (fewest (storedB (piece zs k fr) last.toNat L.length) (fixedB (tkOf zs fr (ende zs k fr)) last.toNat)) (toldB (plOf (tkOf zs fr (ende zs k fr))) (tkOf zs fr (ende zs k fr)) last.toNat):=by rw [hlast,← last_of];rfl
 have hS:(storedB (piece zs k fr) last.toNat L.length).length=storedBits (piece zs k fr).length L.length:=storedB_len _ _ _
 have hS1:1≤storedBits (piece zs k fr).length L.length:=by unfold storedBits;omega
 have hT1:=told_pos (tkOf zs fr (ende zs k fr)) last.toNat
 have hF1:1≤(fixedB (tkOf zs fr (ende zs k fr)) last.toNat).length:=by unfold fixedB;rw [List.length_append];simp [head,nb_length];omega
 rw [e0]
 by_cases hF:(fixedB (tkOf zs fr (ende zs k fr)) last.toNat).length<storedBits (piece zs k fr).length L.length
 ·have e1:fewest (storedB (piece zs k fr) last.toNat L.length) (fixedB (tkOf zs fr (ende zs k fr)) last.toNat)=fixedB (tkOf zs fr (ende zs k fr)) last.toNat:=by unfold fewest;rw [if_pos (by rw [hS];exact hF)]
  rw [e1]
  by_cases hD:(toldB (plOf (tkOf zs fr (ende zs k fr))) (tkOf zs fr (ende zs k fr)) last.toNat).length<(fixedB (tkOf zs fr (ende zs k fr)) last.toNat).length
  ·have e2:fewest (fixedB (tkOf zs fr (ende zs k fr)) last.toNat) (toldB (plOf (tkOf zs fr (ende zs k fr))) (tkOf zs fr (ende zs k fr)) last.toNat)=toldB (plOf (tkOf zs fr (ende zs k fr))) (tkOf zs fr (ende zs k fr)) last.toNat:=by unfold fewest;rw [if_pos hD]
   rw [e2]
   refine put_gen 0 0 3 3 2 25 (by decide) (fun g=>rfl) (by decide) Tryz.call25 rfl pp pb gw c1 c2 fr (ende zs k fr) a c pa (piece zs k fr).length pc last x (TTp (tkOf zs fr (ende zs k fr))) (fun xb y=>∃ ta tc,ZB x (tkOf zs fr (ende zs k fr)) last (.slice pa (piece zs k fr).length pc) c1 c2 xb ta tc (.pointer none) y) (fun xb y=>QB x (tkOf zs fr (ende zs k fr)) last (.slice pa (piece zs k fr).length pc) c1 c2 xb y) (fun w'=>WrAt x v0 pb (L++toldB (plOf (tkOf zs fr (ende zs k fr))) (tkOf zs fr (ende zs k fr)) last.toNat) w') ((toldB (plOf (tkOf zs fr (ende zs k fr))) (tkOf zs fr (ende zs k fr)) last.toNat).length:Int) he.pack h1 (qz HPA) (qz fun x1 x' xb ta tl tc q1 q2 q3 q4 q5=>⟨ta,tc,zb_make q1 q2 q3 q4 q5⟩) (qz fun xb z ⟨ta,tc,h⟩=>hE.pack_on h.bel) (qz fun xb z ⟨ta,tc,h⟩=>⟨ta,tc,h.on (below_drewN (Below.refl _ _) 1)⟩) (qz ?_) (qz ?_) (qz ?_)
   ·rintro xb z ⟨ta,tc,h⟩
    exact ch_best hE h hpl hok hl9 1 ((fixedB (tkOf zs fr (ende zs k fr)) last.toNat).length:Int) 2 ((toldB (plOf (tkOf zs fr (ende zs k fr))) (tkOf zs fr (ende zs k fr)) last.toNat).length:Int) (by omega) (by omega) (by rw [if_pos (by omega)]) (by rw [if_pos (by omega)])
   ·rintro xb z ⟨ta,tc,ob,o1,o2,wB,h,_⟩
    exact hE.pack_on h.bel
   ·rintro xb z h
    exact zb_told hE h hok hl9
  ·have e2:fewest (fixedB (tkOf zs fr (ende zs k fr)) last.toNat) (toldB (plOf (tkOf zs fr (ende zs k fr))) (tkOf zs fr (ende zs k fr)) last.toNat)=fixedB (tkOf zs fr (ende zs k fr)) last.toNat:=by unfold fewest;rw [if_neg hD]
   rw [e2]
   refine put_gen 0 0 3 3 1 23 (by decide) (fun g=>rfl) (by decide) Tryz.call23 rfl pp pb gw c1 c2 fr (ende zs k fr) a c pa (piece zs k fr).length pc last x (TTp (tkOf zs fr (ende zs k fr))) (fun xb y=>∃ ta tc,ZB x (tkOf zs fr (ende zs k fr)) last (.slice pa (piece zs k fr).length pc) c1 c2 xb ta tc (.pointer none) y) (fun xb y=>QB x (tkOf zs fr (ende zs k fr)) last (.slice pa (piece zs k fr).length pc) c1 c2 xb y) (fun w'=>WrAt x v0 pb (L++fixedB (tkOf zs fr (ende zs k fr)) last.toNat) w') ((fixedB (tkOf zs fr (ende zs k fr)) last.toNat).length:Int) he.pack h1 (qz HPA) (qz fun x1 x' xb ta tl tc q1 q2 q3 q4 q5=>⟨ta,tc,zb_make q1 q2 q3 q4 q5⟩) (qz fun xb z ⟨ta,tc,h⟩=>hE.pack_on h.bel) (qz fun xb z ⟨ta,tc,h⟩=>⟨ta,tc,h.on (below_drewN (Below.refl _ _) 1)⟩) (qz ?_) (qz ?_) (qz ?_)
   ·rintro xb z ⟨ta,tc,h⟩
    exact ch_best hE h hpl hok hl9 1 ((fixedB (tkOf zs fr (ende zs k fr)) last.toNat).length:Int) 1 ((fixedB (tkOf zs fr (ende zs k fr)) last.toNat).length:Int) (by omega) (by omega) (by rw [if_pos (by omega)]) (by rw [if_neg (by omega)])
   ·rintro xb z ⟨ta,tc,ob,o1,o2,wB,h,_⟩
    exact hE.pack_on h.bel
   ·rintro xb z ⟨ta,tc,ob,o1,o2,wB,h,_⟩
    exact zb_fixed hE h (fixed_by hok hl9)
 ·have e1:fewest (storedB (piece zs k fr) last.toNat L.length) (fixedB (tkOf zs fr (ende zs k fr)) last.toNat)=storedB (piece zs k fr) last.toNat L.length:=by unfold fewest;rw [if_neg (by rw [hS];exact hF)]
  rw [e1]
  by_cases hD:(toldB (plOf (tkOf zs fr (ende zs k fr))) (tkOf zs fr (ende zs k fr)) last.toNat).length<storedBits (piece zs k fr).length L.length
  ·have e2:fewest (storedB (piece zs k fr) last.toNat L.length) (toldB (plOf (tkOf zs fr (ende zs k fr))) (tkOf zs fr (ende zs k fr)) last.toNat)=toldB (plOf (tkOf zs fr (ende zs k fr))) (tkOf zs fr (ende zs k fr)) last.toNat:=by unfold fewest;rw [if_pos (by rw [hS];exact hD)]
   rw [e2]
   refine put_gen 0 0 3 3 2 25 (by decide) (fun g=>rfl) (by decide) Tryz.call25 rfl pp pb gw c1 c2 fr (ende zs k fr) a c pa (piece zs k fr).length pc last x (TTp (tkOf zs fr (ende zs k fr))) (fun xb y=>∃ ta tc,ZB x (tkOf zs fr (ende zs k fr)) last (.slice pa (piece zs k fr).length pc) c1 c2 xb ta tc (.pointer none) y) (fun xb y=>QB x (tkOf zs fr (ende zs k fr)) last (.slice pa (piece zs k fr).length pc) c1 c2 xb y) (fun w'=>WrAt x v0 pb (L++toldB (plOf (tkOf zs fr (ende zs k fr))) (tkOf zs fr (ende zs k fr)) last.toNat) w') ((toldB (plOf (tkOf zs fr (ende zs k fr))) (tkOf zs fr (ende zs k fr)) last.toNat).length:Int) he.pack h1 (qz HPA) (qz fun x1 x' xb ta tl tc q1 q2 q3 q4 q5=>⟨ta,tc,zb_make q1 q2 q3 q4 q5⟩) (qz fun xb z ⟨ta,tc,h⟩=>hE.pack_on h.bel) (qz fun xb z ⟨ta,tc,h⟩=>⟨ta,tc,h.on (below_drewN (Below.refl _ _) 1)⟩) (qz ?_) (qz ?_) (qz ?_)
   ·rintro xb z ⟨ta,tc,h⟩
    exact ch_best hE h hpl hok hl9 0 (storedBits (piece zs k fr).length L.length:Int) 2 ((toldB (plOf (tkOf zs fr (ende zs k fr))) (tkOf zs fr (ende zs k fr)) last.toNat).length:Int) (by omega) (by omega) (by rw [if_neg (by omega)]) (by rw [if_pos (by omega)])
   ·rintro xb z ⟨ta,tc,ob,o1,o2,wB,h,_⟩
    exact hE.pack_on h.bel
   ·rintro xb z h
    exact zb_told hE h hok hl9
  ·have e2:fewest (storedB (piece zs k fr) last.toNat L.length) (toldB (plOf (tkOf zs fr (ende zs k fr))) (tkOf zs fr (ende zs k fr)) last.toNat)=storedB (piece zs k fr) last.toNat L.length:=by unfold fewest;rw [if_neg (by rw [hS];exact hD)]
   rw [e2]
   refine put_gen 0 0 3 3 0 21 (by decide) (fun g=>rfl) (by decide) Tryz.call21 rfl pp pb gw c1 c2 fr (ende zs k fr) a c pa (piece zs k fr).length pc last x (TTp (tkOf zs fr (ende zs k fr))) (fun xb y=>∃ ta tc,ZB x (tkOf zs fr (ende zs k fr)) last (.slice pa (piece zs k fr).length pc) c1 c2 xb ta tc (.pointer none) y) (fun xb y=>QB x (tkOf zs fr (ende zs k fr)) last (.slice pa (piece zs k fr).length pc) c1 c2 xb y) (fun w'=>WrAt x v0 pb (L++storedB (piece zs k fr) last.toNat L.length) w') (storedBits (piece zs k fr).length L.length:Int) he.pack h1 (qz HPA) (qz fun x1 x' xb ta tl tc q1 q2 q3 q4 q5=>⟨ta,tc,zb_make q1 q2 q3 q4 q5⟩) (qz fun xb z ⟨ta,tc,h⟩=>hE.pack_on h.bel) (qz fun xb z ⟨ta,tc,h⟩=>⟨ta,tc,h.on (below_drewN (Below.refl _ _) 1)⟩) (qz ?_) (qz ?_) (qz ?_)
   ·rintro xb z ⟨ta,tc,h⟩
    exact ch_best hE h hpl hok hl9 0 (storedBits (piece zs k fr).length L.length:Int) 0 (storedBits (piece zs k fr).length L.length:Int) (by omega) (by omega) (by rw [if_neg (by omega)]) (by rw [if_neg (by omega)])
   ·rintro xb z ⟨ta,tc,ob,o1,o2,wB,h,_⟩
    exact hE.pack_on h.bel
   ·rintro xb z ⟨ta,tc,ob,o1,o2,wB,h,_⟩
    exact zb_stored hE h h2 hpz hpl
theorem tb_short {l1 l2:List Nat} {ts:List T} (h:TokBy l1 l2 ts):(tbits l1 l2 ts++wb l1 256).length≤56*ts.length+28:=by
 rw [← evsB_all]
 have h1:=evsB_len (allEv_ok h.ok h.has h.fin h.m1 h.m2)
 have h2:=allEv_len ts
 omega
theorem own_le (hz:∀ z∈zs,z<256) (hk1:1≤k) (hk2:k≤65535) (hn:zs.length≤10000000) (kind fr p:Nat) (hfr:fr<zs.length∨fr=0):(ownB zs k kind (tkOf zs) plOf fr p).length≤40000*k:=by
 obtain ⟨g1,g2,g3⟩:=ende_is zs k fr hfr
 obtain ⟨hok,_,hlen⟩:=tkOf_ok hz g1 g2
 have hl9:(tkOf zs fr (ende zs k fr)).length≤1000000000:=by omega
 have f1:=tb_short (fixed_by hok hl9)
 have f2:=tb_short (own_good hok hl9).by_
 have f3:=hd_len (own_good hok hl9).head
 unfold ownB
 rcases pick_one kind (storedB (piece zs k fr) (lastOf zs k fr) p) (fixedB (tkOf zs fr (ende zs k fr)) (lastOf zs k fr)) (toldB (plOf (tkOf zs fr (ende zs k fr))) (tkOf zs fr (ende zs k fr)) (lastOf zs k fr)) with h | h | h
 ·rw [h,storedB_len,piece_length]
  unfold storedBits
  omega
 ·rw [h]
  unfold fixedB
  rw [List.length_append]
  simp only [head,List.length_append,nb_length] at f1 ⊢
  omega
 ·rw [h,← told_bits hok hl9,List.length_append,List.length_append]
  simp only [head,List.length_append,nb_length] at f2 f3 ⊢
  omega
theorem deflate_ok (kind:Nat) (hkind:kind≤3) (ht:TextAt w a c zs) (hz:∀ z∈zs,z<256) (hc:zs.length≤c) (hcM:c≤9223372036854775807) (hk1:1≤k) (hk2:k≤65535) (hn:zs.length≤10000000) (hml:T6.ML w) :
  Calls Tryz.prog 6 #[.slice a zs.length c,.int .i64 (k:Int),.int .i64 (kind:Int)] w fun e w'=>∃ g L,L=deflF zs k kind (tkOf zs) plOf (zs.length+1) 0 []∧e=.returned (.tuple #[.slice (some ⟨g,0,none⟩) ((L.length+7) / 8) ((L.length+7) / 8),.int .i64 0])∧w'.heap[g]?=some (.cells ((pk false ((L.length+7) / 8) L).map bv).toArray 5 (0,0))∧w.heap.size≤g∧Below w.heap.size w w':=by
 refine deflate_gen kind zs a c k (tkOf zs) plOf w hk1 hk2 hkind hn hc (fun h0=>by obtain ⟨b,off,e,_⟩:=ht.spot h0;exact ⟨b,off,e⟩) ?_ (own_le zs k hz hk1 hk2 hn kind)
 have hc4:kind=0∨kind=1∨kind=2∨kind=3:=by omega
 rcases hc4 with rfl | rfl | rfl | rfl
 ·exact putIs_zero zs a c k w ht hz hc hcM hk1 hk2 hn hml
 ·exact putIs_one zs a c k _ _ w ht hz hc hcM hk1 hk2
 ·exact putIs_two zs a c k w ht hz hc hcM hk1 hk2 hn hml
 ·exact putIs_three zs a c k w ht hz hc hcM hk1 hk2 hn hml
end
end W4
namespace W4
open Go.RowKit Mth Infl Defl
attribute [local go_sem ↓] wp_at_zero wp_at_succ
theorem size_of (x:Int):∃ (r s:Int) (t K:Nat),x.tmod 65535=r∧r+65535=s∧0≤s∧s≤131070∧s.tmod 65535=(t:Int)∧1+(t:Int)=(K:Int)∧1≤K∧K≤65535:=by
 have h1:=Int.tmod_lt_of_pos x (show (0:Int)<65535 by omega)
 have h2:=Int.lt_tmod_of_pos x (show (0:Int)<65535 by omega)
 have h3:0≤x.tmod 65535+65535:=by omega
 have h4:=Int.tmod_nonneg 65535 h3
 have h5:=Int.tmod_lt_of_pos (x.tmod 65535+65535) (show (0:Int)<65535 by omega)
 obtain ⟨t,ht⟩:=Int.eq_ofNat_of_zero_le h4
 exact ⟨_,_,t,t+1,rfl,rfl,by omega,by omega,ht,by omega,by omega,by omega⟩
end W4
section
open Go.RowKit Mth Infl
section
variable {w:World} {zs:List Nat}
theorem start_at {w w1:World} {zs:List Nat} {rp:Nat} (most:Nat) (hr:ROk w1 rp false w.heap.size zs 0) (hb:Below w.heap.size w w1) (hlo:w.heap.size≤rp) :
  BsAt w (w1.alloc (.cells #[.pointer (some ⟨rp,0,none⟩),.int .i64 (most:Int),.slice none 0 0,.pointer none,.pointer none] 98)) (w1.heap.size+1) w1.heap.size rp w.heap.size zs 0 (.slice none 0 0) [] most (.pointer none) (.pointer none):=by
 have h1:=hr.lt
 have h2:=heap_lt hr.row
 have h3:=hb.size
 refine ⟨⟨heap_alloc_new _ _,hr.keep (Below.heap_alloc _ _ _ h1) (Below.heap_alloc _ _ _ h2),World.ownsRow_nil _ _ _ _,fun z hz=>by simp at hz,by omega,by omega,by omega,by omega,by omega,by simp,by simp⟩,.inl rfl,hb.alloc h3 _,h3,hlo⟩
theorem readAll_ok (bs:Value) (zs:List Nat) (most:Nat) (w:World) (hr:Reads w bs zs) (hz:zs.length≤140737488355328) (hs:∀ z∈zs,z<256) (hm:most≤268435456) :
  Calls Tryz.prog 19 #[bs,.int .i64 (most:Int)] w fun e w'=>∃ r,Tells gg ce (Infl.bitsOf zs) most r∧ReadIs r most zs w e w':=by
 have HN:=qz (newReader_ok bs zs false w hr hz hs)
 clear hr
 go_enter Tryz.func19,Tryz.ntmps19
 go_wp2_with fail
 refine wp_scope_on 0 rfl ?_
 go_wp2_with fail
 refine (uh HN).mono ?_
 rintro e w1 ⟨rp,rfl,hlo,hrd,hb⟩
 have HST:=qz (start_at most hrd hb hlo)
 clear hrd hb hlo HN
 go_wp2_with fail
 obtain ⟨rb,hrb⟩:∃ rb,rb=w1.heap.size:=⟨_,rfl⟩
 obtain ⟨B,hB⟩:∃ B,B=rb+1:=⟨_,rfl⟩
 obtain ⟨g,hg⟩:∃ g,g=w.heap.size:=⟨_,rfl⟩
 have HST2:Hid (BsAt w (w1.alloc (.cells #[.pointer (some ⟨rp,0,none⟩),.int .i64 (most:Int),.slice none 0 0,.pointer none,.pointer none] 98)) B rb rp g zs 0 (.slice none 0 0) [] most (.pointer none) (.pointer none)):=qz (by rw [hB,hrb,hg];exact uh HST)
 rw [← hrb]
 clear HST hB hg hrb
 generalize w1.alloc (.cells #[.pointer (some ⟨rp,0,none⟩),.int .i64 (most:Int),.slice none 0 0,.pointer none,.pointer none] 98)=w2 at HST2 ⊢
 go_loopg [7] (8*zs.length+1) (fun gk l ws=>∃ (L q:Nat) (vi:Value) (oi:List Nat) (sv dv:Value),gk=8*zs.length+1 - q∧q≤8*zs.length∧l=.int .u64 (L:Int)∧Hid (BsAt w ws B rb rp g zs q vi oi most sv dv)∧((L=0∧Hid (Goes most zs oi q))∨(L=1∧Hid (Tells gg ce (Infl.bitsOf zs) most (.ok oi q)))))
 case atStart=>exact ⟨0,0,_,[],_,_,by omega,by omega,rfl,HST2,.inl ⟨rfl,qz (Goes.start most zs)⟩⟩
 case round =>
  obtain ⟨L,q,vi,oi,sv,dv,rfl,hq,rfl,HBS,hL⟩:=hrel
  clear HST2
  rcases hL with ⟨rfl,HGO⟩ | ⟨rfl,HTE⟩
  ·have c0:=(uh HBS).rat.c0
   have HG:=qz (rget 1 (uh HBS).rat hz (by decide))
   go_wp2_with fail
   refine (uh HG).mono ?_
   rintro e w3 ⟨last,q1,b,rfl,r1,d1,g1⟩
   clear HG c0
   rcases g1 with ⟨rfl,g1,gl,gq1⟩ | ⟨rfl,rfl,g1⟩
   ·have hlast:last<2:=gl
    have HD1:=qz d1
    have HG1:=qz g1
    have HK:=qz (kind_ok r1 hz)
    have HF1:=qz ((uh HBS).fix.chg d1 r1.lb r1.lp)
    have HLB:=qz (And.intro r1.lb r1.lp)
    clear r1 d1 g1 gl
    go_wp2_with fail
    refine (uh HK).mono ?_
    rintro e w5 ⟨d2,x,q2,b,g2,r2,hcase⟩
    have HD2:=qz ((uh HD1).trans d2)
    have HR3:=qz r2
    have HF3:=qz ((uh HF1).chg d2 (uh HLB).1 (uh HLB).2)
    have hq2le:=r2.rd.le
    clear d2 r2 HK HD1 HF1
    rcases hcase with ⟨rfl,hx,rfl⟩ | ⟨rfl,rfl,rfl⟩ | ⟨rfl,rfl⟩
    ·obtain ⟨g2,gq2⟩:Infl.get 2 (Infl.bitsOf zs) q1=.ok x q2∧q2=q1+2:=by
      rcases g2 with ⟨_,g2,_,h⟩ | ⟨h,_⟩
      ·exact ⟨g2,h⟩
      ·cases h
     have HG2:=qz g2
     clear g2
     rcases (show x=0∨x=1∨x=2 by omega) with rfl | rfl | rfl
     ·have HB:=qz (storedBlock_ok (uh HR3) (uh HF3) hz hm)
      have HGO2:=HGO
      rw [show kindF 0 rb=.func (.func 75) #[.pointer (some ⟨rb,0,none⟩)] #[] from rfl]
      go_wp2_with fail
      refine (uh HB).mono ?_
      rintro e w4 hblk
      obtain ⟨F,hF⟩:∃ F:Nat,F=0:=⟨0,rfl⟩
      rcases hblk with ⟨v4,o4,q4,sv4,dv4,hk,rfl,r4,f4,d4⟩ | ⟨b,v4,hk,hb0,hb1,rfl,d4⟩
      ·have hbl:=block_is (F:=F) (uh HG1) (uh HG2) (show byKind 0 most F oi (Infl.bitsOf zs) q2=_ from hk)
       have HN4:=qz ((uh HBS).next r4 f4 ((uh HD2).trans d4))
       have hq4:=r4.rd.le
       have hqq:q2≤q4:=((loc_byKind 0 most F oi).le _ _ _ _ (by rw [bitsOf_m];omega) (show byKind 0 most F oi (Infl.bitsOf zs) q2=_ from hk)).1
       rcases (show last=0∨last=1 by omega) with rfl | rfl
       ·have HNX:=qz ((uh HGO2).next hbl)
        clear hbl hk r4 f4 d4
        go_wp2_with fail
        go_roundg (8*zs.length+1 - q4)
        case measure=>omega
        case rel=>exact ⟨0,q4,v4,o4,sv4,dv4,rfl,hq4,rfl,HN4,.inl ⟨rfl,HNX⟩⟩
       ·have HNX:=qz ((uh HGO2).fin hbl)
        clear hbl hk r4 f4 d4
        go_wp2_with fail
        go_roundg (8*zs.length+1 - q4)
        case measure=>omega
        case rel=>exact ⟨1,q4,v4,o4,sv4,dv4,rfl,hq4,rfl,HN4,.inr ⟨rfl,HNX⟩⟩
      ·have hbl:Infl.block gg ce most F oi (Infl.bitsOf zs) q=.bad b:=by rw [block_by,bind_of (uh HG1),bind_of (uh HG2),bind_bad (show byKind 0 most F oi (Infl.bitsOf zs) q2=_ from hk)]
       have HE:Hid (∃ r,Tells gg ce (Infl.bitsOf zs) most r∧ReadIs r most zs w (.returned (.tuple #[.slice none 0 0,.int .i64 0,.int .i64 (b:Int)])) w4):=qz ⟨_,(uh HGO2).bad hbl,(uh HBS).gone ((uh HD2).trans d4),.inr ⟨b,rfl,hb0,hb1,rfl⟩⟩
       have t1:¬ (b:Int)=0:=by omega
       have t2:((b:Int) == 0)=false:=by simp;omega
       clear hbl hk d4 hb0 hb1
       go_wp2_with fail
       go_step3
       refine ⟨rfl,?_⟩
       go_wp2_with fail
       rw [Exit.noGoto_ret]
       go_ret3
       exact uh HE
     ·have HB:=qz (fixedBlock_ok (uh HR3) (uh HF3) hz hm)
      have HGO2:=HGO
      rw [show kindF 1 rb=.func (.func 76) #[.pointer (some ⟨rb,0,none⟩)] #[] from rfl]
      go_wp2_with fail
      refine (uh HB).mono ?_
      rintro e w4 ⟨F,hblk⟩
      rcases hblk with ⟨v4,o4,q4,sv4,dv4,hk,rfl,r4,f4,d4⟩ | ⟨b,v4,hk,hb0,hb1,rfl,d4⟩
      ·have hbl:=block_is (F:=F) (uh HG1) (uh HG2) (show byKind 1 most F oi (Infl.bitsOf zs) q2=_ from hk)
       have HN4:=qz ((uh HBS).next r4 f4 ((uh HD2).trans d4))
       have hq4:=r4.rd.le
       have hqq:q2≤q4:=((loc_byKind 1 most F oi).le _ _ _ _ (by rw [bitsOf_m];omega) (show byKind 1 most F oi (Infl.bitsOf zs) q2=_ from hk)).1
       rcases (show last=0∨last=1 by omega) with rfl | rfl
       ·have HNX:=qz ((uh HGO2).next hbl)
        clear hbl hk r4 f4 d4
        go_wp2_with fail
        go_roundg (8*zs.length+1 - q4)
        case measure=>omega
        case rel=>exact ⟨0,q4,v4,o4,sv4,dv4,rfl,hq4,rfl,HN4,.inl ⟨rfl,HNX⟩⟩
       ·have HNX:=qz ((uh HGO2).fin hbl)
        clear hbl hk r4 f4 d4
        go_wp2_with fail
        go_roundg (8*zs.length+1 - q4)
        case measure=>omega
        case rel=>exact ⟨1,q4,v4,o4,sv4,dv4,rfl,hq4,rfl,HN4,.inr ⟨rfl,HNX⟩⟩
      ·have hbl:Infl.block gg ce most F oi (Infl.bitsOf zs) q=.bad b:=by rw [block_by,bind_of (uh HG1),bind_of (uh HG2),bind_bad (show byKind 1 most F oi (Infl.bitsOf zs) q2=_ from hk)]
       have HE:Hid (∃ r,Tells gg ce (Infl.bitsOf zs) most r∧ReadIs r most zs w (.returned (.tuple #[.slice none 0 0,.int .i64 0,.int .i64 (b:Int)])) w4):=qz ⟨_,(uh HGO2).bad hbl,(uh HBS).gone ((uh HD2).trans d4),.inr ⟨b,rfl,hb0,hb1,rfl⟩⟩
       have t1:¬ (b:Int)=0:=by omega
       have t2:((b:Int) == 0)=false:=by simp;omega
       clear hbl hk d4 hb0 hb1
       go_wp2_with fail
       go_step3
       refine ⟨rfl,?_⟩
       go_wp2_with fail
       rw [Exit.noGoto_ret]
       go_ret3
       exact uh HE
     ·have HB:=qz (ownBlock_ok (uh HR3) (uh HF3) hz hm)
      have HGO2:=HGO
      rw [show kindF 2 rb=.func (.func 77) #[.pointer (some ⟨rb,0,none⟩)] #[] from rfl]
      go_wp2_with fail
      refine (uh HB).mono ?_
      rintro e w4 ⟨F,hblk⟩
      rcases hblk with ⟨v4,o4,q4,sv4,dv4,hk,rfl,r4,f4,d4⟩ | ⟨b,v4,hk,hb0,hb1,rfl,d4⟩
      ·have hbl:=block_is (F:=F) (uh HG1) (uh HG2) (show byKind 2 most F oi (Infl.bitsOf zs) q2=_ from hk)
       have HN4:=qz ((uh HBS).next r4 f4 ((uh HD2).trans d4))
       have hq4:=r4.rd.le
       have hqq:q2≤q4:=((loc_byKind 2 most F oi).le _ _ _ _ (by rw [bitsOf_m];omega) (show byKind 2 most F oi (Infl.bitsOf zs) q2=_ from hk)).1
       rcases (show last=0∨last=1 by omega) with rfl | rfl
       ·have HNX:=qz ((uh HGO2).next hbl)
        clear hbl hk r4 f4 d4
        go_wp2_with fail
        go_roundg (8*zs.length+1 - q4)
        case measure=>omega
        case rel=>exact ⟨0,q4,v4,o4,sv4,dv4,rfl,hq4,rfl,HN4,.inl ⟨rfl,HNX⟩⟩
       ·have HNX:=qz ((uh HGO2).fin hbl)
        clear hbl hk r4 f4 d4
        go_wp2_with fail
        go_roundg (8*zs.length+1 - q4)
        case measure=>omega
        case rel=>exact ⟨1,q4,v4,o4,sv4,dv4,rfl,hq4,rfl,HN4,.inr ⟨rfl,HNX⟩⟩
      ·have hbl:Infl.block gg ce most F oi (Infl.bitsOf zs) q=.bad b:=by rw [block_by,bind_of (uh HG1),bind_of (uh HG2),bind_bad (show byKind 2 most F oi (Infl.bitsOf zs) q2=_ from hk)]
       have HE:Hid (∃ r,Tells gg ce (Infl.bitsOf zs) most r∧ReadIs r most zs w (.returned (.tuple #[.slice none 0 0,.int .i64 0,.int .i64 (b:Int)])) w4):=qz ⟨_,(uh HGO2).bad hbl,(uh HBS).gone ((uh HD2).trans d4),.inr ⟨b,rfl,hb0,hb1,rfl⟩⟩
       have t1:¬ (b:Int)=0:=by omega
       have t2:((b:Int) == 0)=false:=by simp;omega
       clear hbl hk d4 hb0 hb1
       go_wp2_with fail
       go_step3
       refine ⟨rfl,?_⟩
       go_wp2_with fail
       rw [Exit.noGoto_ret]
       go_ret3
       exact uh HE
    ·obtain ⟨g2,gq2⟩:Infl.get 2 (Infl.bitsOf zs) q1=.ok 3 q2∧q2=q1+2:=by
      rcases g2 with ⟨_,g2,_,h⟩ | ⟨h,_⟩
      ·exact ⟨g2,h⟩
      ·cases h
     have HE:Hid (∃ r,Tells gg ce (Infl.bitsOf zs) most r∧ReadIs r most zs w (.returned (.tuple #[.slice none 0 0,.int .i64 0,.int .i64 ((16:Nat):Int)])) w5):=qz ⟨_,(uh HGO).bad (F:=0) (b:=16) (by rw [block_by,bind_of (uh HG1),bind_of g2];rfl),(uh HBS).gone (uh HD2),.inr ⟨16,rfl,by decide,by decide,rfl⟩⟩
     clear g2
     go_wp2_with fail
     go_step3
     refine ⟨rfl,?_⟩
     go_wp2_with fail
     rw [Exit.noGoto_ret]
     go_ret3
     exact uh HE
    ·have g2:Infl.get 2 (Infl.bitsOf zs) q1=.bad 10:=by
      rcases g2 with ⟨h,_⟩ | ⟨_,_,g2⟩
      ·cases h
      ·exact g2
     have HE:Hid (∃ r,Tells gg ce (Infl.bitsOf zs) most r∧ReadIs r most zs w (.returned (.tuple #[.slice none 0 0,.int .i64 0,.int .i64 ((10:Nat):Int)])) w5):=qz ⟨_,(uh HGO).bad (F:=0) (b:=10) (by rw [block_by,bind_of (uh HG1),bind_bad g2]),(uh HBS).gone (uh HD2),.inr ⟨10,rfl,by decide,by decide,rfl⟩⟩
     clear g2
     go_wp2_with fail
     go_step3
     refine ⟨rfl,?_⟩
     go_wp2_with fail
     rw [Exit.noGoto_ret]
     go_ret3
     exact uh HE
   ·have HE:Hid (∃ r,Tells gg ce (Infl.bitsOf zs) most r∧ReadIs r most zs w (.returned (.tuple #[.slice none 0 0,.int .i64 0,.int .i64 ((10:Nat):Int)])) w3):=qz ⟨_,(uh HGO).bad (F:=0) (b:=10) (by rw [block_by,bind_bad g1]),(uh HBS).gone d1,.inr ⟨10,rfl,by decide,by decide,rfl⟩⟩
    clear r1 d1 g1
    go_wp2_with fail
    go_step3
    refine ⟨rfl,?_⟩
    go_wp2_with fail
    rw [Exit.noGoto_ret]
    go_ret3
    exact uh HE
  ·have c0:=(uh HBS).rat.c0
   have c2:=(uh HBS).rat.c2
   have HAT:Hid (∀ n,Calls Tryz.prog 50 #[.pointer (some ⟨rp,0,none⟩)] (wr.drewN n) fun e w'=>e=.returned (.int .i64 (q:Int))∧w'=wr.drewN n):=qz fun n=>at_ok rp g q false zs _ ((uh HBS).rat.rd.drewN n)
   have HE:Hid (∀ k,(∃ r,Tells gg ce (Infl.bitsOf zs) most r∧ReadIs r most zs w (.returned (.tuple #[vi,.int .i64 (((q+7) / 8:Nat):Int),.int .i64 0])) (wr.drewN k))):=qz fun k=>⟨_,uh HTE,⟨(uh HBS).bel.os,(uh HBS).bel.tape,(uh HBS).bel.output,(uh HBS).bel.size,(uh HBS).bel.block⟩,.inl ⟨oi,q,vi,rfl,rfl,by
    have hrow:=(uh HBS).rat.row
    refine ⟨hrow.1,?_⟩
    rcases hrow.2 with e | ⟨g',cap,cur,e,hb',r⟩
    ·exact .inl e
    ·exact .inr ⟨g',cap,cur,e,by have:=(uh HBS).rat.lb;have:=(uh HBS).lo;omega,r⟩,(uh HBS).rat.small,(uh HBS).rat.ol,hq⟩⟩
   have hqi:(q:Int)≤1125899906842624:=by omega
   clear HTE HBS
   go_wp2_with fail
   go_quiet (first | (go_at_call 50;refine Calls.quiet_of_same (uh HAT _)))
   go_wp2_with fail
   refine jump_ret_of ?_
   go_ret3
   exact uh HE _
end
end
section
open Go.RowKit Mth Infl
theorem agree_take (zs:List Nat) (S:Nat):Agree (Infl.bitsOf (zs.take S)) (Infl.bitsOf zs) (Infl.bitsOf (zs.take S)).m:=by
 intro i hi
 rw [bitsOf_m,List.length_take] at hi
 unfold Infl.bitsOf
 simp only [List.getD_eq_getElem?_getD]
 rw [List.getElem?_take,if_pos (by omega)]
theorem tells_more {zs:List Nat} {S most:Nat} {r:Res (List Nat)} (h:Tells gg ce (Infl.bitsOf (zs.take S)) most r) (h10:r≠.bad 10):Tells gg ce (Infl.bitsOf zs) most r:=by
 have hm:(Infl.bitsOf (zs.take S)).m≤(Infl.bitsOf zs).m:=by rw [bitsOf_m,bitsOf_m,List.length_take];omega
 cases r with
 | ok o q =>
  have hle:=h.le gg_gl
  exact h.ext gg_gl ((agree_take zs S).mono hle) (by omega)
 | bad b=>exact h.err gg_gl (fun e=>h10 (by rw [e])) (agree_take zs S) hm
 | more=>exact absurd rfl h.1
theorem ReadIs.wide {r:Res (List Nat)} {most:Nat} {zs:List Nat} {S:Nat} {w w1 w':World} {e:Ending} (h:ReadIs r most (zs.take S) w1 e w') (hb:Below w.heap.size w w1):ReadIs r most zs w e w':=by
 obtain ⟨h1,h2⟩:=h
 refine ⟨hb.trans (h1.mono hb.size),?_⟩
 rcases h2 with ⟨o,q,v',e1,e2,e3,e4,e5,e6⟩ | ⟨b,e1,e2,e3,e4⟩
 ·refine .inl ⟨o,q,v',e1,e2,?_,e4,e5,by rw [List.length_take] at e6;omega⟩
  refine ⟨e3.1,?_⟩
  rcases e3.2 with e | ⟨g',cap,cur,e,hb',r⟩
  ·exact .inl e
  ·exact .inr ⟨g',cap,cur,e,by have:=hb.size;omega,r⟩
 ·exact .inr ⟨b,e1,e2,e3,e4⟩
theorem ReadIs.same {r:Res (List Nat)} {most:Nat} {zs:List Nat} {w w1 w':World} {e:Ending} (h:ReadIs r most zs w1 e w') (hb:Below w.heap.size w w1):ReadIs r most zs w e w':=by
 have:zs=zs.take zs.length:=by simp
 rw [this] at h
 exact h.wide hb
def Bytes (w:World) (a:Option Addr) (cap:Nat) (zs:List Nat):Prop:=zs.length≤cap∧Reads w (.slice a zs.length cap) zs
theorem Bytes.take {w:World} {a:Option Addr} {cap:Nat} {zs:List Nat} (h:Bytes w a cap zs) (S:Nat) (hS:S≤zs.length):Reads w (.slice a S cap) (zs.take S):=by
 obtain ⟨_,a',cap',e,hr⟩:=h
 injection e with e1 e2 e3
 subst e1 e3
 have hl:(zs.take S).length=S:=by simp;omega
 refine ⟨a,cap,by rw [hl],fun h0=>?_⟩
 rw [hl] at h0
 obtain ⟨ad,rfl,h2⟩:=hr (by omega)
 refine ⟨ad,rfl,fun j u hj=>h2 j u ?_⟩
 rw [List.map_take,List.getElem?_take] at hj
 split at hj
 ·exact hj
 ·cases hj
theorem Bytes.stays {w w1:World} {a:Option Addr} {cap:Nat} {zs:List Nat} (h:Bytes w a cap zs) (hb:Below w.heap.size w w1):Bytes w1 a cap zs:=⟨h.1,h.2.stays hb⟩
theorem inflate_ok (a:Option Addr) (cap:Nat) (zs:List Nat) (most:Nat) (w:World) (hr:Bytes w a cap zs) (hz:zs.length≤140737488355328) (hs:∀ z∈zs,z<256) (hm:most≤268435456) :
  Calls Tryz.prog 8 #[.slice a zs.length cap,.int .i64 (most:Int)] w fun e w'=>∃ r,Tells gg ce (Infl.bitsOf zs) most r∧ReadIs r most zs w e w':=by
 have hb1:decide ((most:Int)<0)=false:=by simp
 have hb1':¬ (most:Int)<0:=by omega
 have hb2:decide (268435456<(most:Int))=false:=by simp;omega
 have hb2':¬ 268435456<(most:Int):=by omega
 have HR:=qz hr
 have HS:=qz hs
 obtain ⟨N,hN⟩:∃ N,N=zs.length:=⟨_,rfl⟩
 have hcap:=hr.1
 rw [← hN] at hcap hz ⊢
 have HN:=qz hN
 clear hr hs hN
 go_enter Tryz.func8,Tryz.ntmps8
 go_wp2_with fail
 go_loopg [7] (N - 4096) (fun gk l ws=>∃ S:Nat,gk=N - S∧4096≤S∧S≤1125899906842624∧l=.int .i64 (S:Int)∧Hid (Below w.heap.size w ws))
 case atStart=>exact ⟨4096,rfl,by omega,by omega,rfl,qz (Below.refl _ _)⟩
 case round =>
  obtain ⟨S,rfl,hS,hS2,rfl,hbel⟩:=hrel
  by_cases hlt:S<N
  ·have tlt:(S:Int)<(N:Int):=by omega
   have tc:(S:Int)≤(cap:Int):=by omega
   have HRA:=qz (readAll_ok (.slice a S cap) (zs.take S) most wr (((uh HR).stays (uh hbel)).take S (by rw [← uh HN];omega)) (by rw [List.length_take];omega) (fun z hz=>uh HS z (List.mem_of_mem_take hz)) hm)
   go_wp2_with fail
   refine (uh HRA).mono ?_
   rintro e w1 ⟨r,ht,hri⟩
   have HRW:=qz (hri.wide (uh hbel))
   have HB1:=qz ((uh hbel).trans (hri.1.mono (uh hbel).size))
   rcases hri.2 with ⟨o,q,v',rfl,rfl,_,_,_,_⟩ | ⟨b,rfl,hb0,hb100,rfl⟩
   ·have HE:=qz (show ∃ r,Tells gg ce (Infl.bitsOf zs) most r∧ReadIs r most zs w _ w1 from ⟨_,tells_more ht (by simp),uh HRW⟩)
    clear ht hri
    go_wp2_with fail
    go_ret3
    exact uh HE
   ·by_cases h10:b=10
    ·subst h10
     clear ht hri
     go_wp2_with fail
     go_roundg (N - S*8)
     case measure=>omega
     case rel=>exact ⟨S*8,rfl,by omega,by omega,by go_num,HB1⟩
    ·have HE:=qz (show ∃ r,Tells gg ce (Infl.bitsOf zs) most r∧ReadIs r most zs w _ w1 from ⟨_,tells_more ht (by intro e;injection e with e;exact h10 e),uh HRW⟩)
     have t1:¬ (b:Int)=10:=by omega
     have t2:((b:Int) == 10)=false:=by simp;omega
     clear ht hri h10
     go_wp2_with fail
     go_ret3
     exact uh HE
  ·have tlt:¬ (S:Int)<(N:Int):=by omega
   have HRA:=qz (readAll_ok (.slice a N cap) zs most wr (by have:=((uh HR).stays (uh hbel)).2;rw [← uh HN] at this;exact this) (by rw [← uh HN];exact hz) (uh HS) hm)
   go_wp2_with fail
   refine (uh HRA).mono ?_
   rintro e w1 ⟨r,ht,hri⟩
   have HE:=qz (show ∃ r,Tells gg ce (Infl.bitsOf zs) most r∧ReadIs r most zs w e w1 from ⟨_,ht,hri.same (uh hbel)⟩)
   rcases hri.2 with ⟨o,q,v',rfl,rfl,_,_,_,_⟩ | ⟨b,rfl,hb0,hb100,rfl⟩
   ·clear ht hri
    go_wp2_with fail
    go_ret3
    exact uh HE
   ·clear ht hri
    go_wp2_with fail
    go_ret3
    exact uh HE
end
section
open Go.RowKit Mth Infl
theorem inflate_is (a:Option Addr) (cap:Nat) (zs:List Nat) (most:Nat) (w:World) (r:Res (List Nat)) (hr:Bytes w a cap zs) (hz:zs.length≤140737488355328) (hs:∀ z∈zs,z<256) (hm:most≤268435456) (ht:Tells gg ce (Infl.bitsOf zs) most r) :
  Calls Tryz.prog 8 #[.slice a zs.length cap,.int .i64 (most:Int)] w fun e w'=>ReadIs r most zs w e w' :=
 (inflate_ok a cap zs most w hr hz hs hm).mono fun e w' ⟨r',h1,h2⟩=>by rw [ht.one h1];exact h2
def strOf (o:List Nat):ByteArray:=⟨(o.map UInt8.ofNat).toArray⟩
theorem ReadIs.ok {o:List Nat} {q most:Nat} {zs:List Nat} {w w':World} {e:Ending} (h:ReadIs (.ok o q) most zs w e w'):Below w.heap.size w w'∧∃ v',e=.returned (.tuple #[v',.int .i64 (((q+7) / 8:Nat):Int),.int .i64 0])∧(∃ a c,v'=.slice a o.length c)∧Reads w' v' o∧(∀ z∈o,z<256)∧o.length≤most:=by
 obtain ⟨hb,h⟩:=h
 rcases h with ⟨o',q',v',e1,e2,e3,e4,e5,e6⟩ | ⟨b,e1,_⟩
 ·injection e1 with e1 e1'
  subst e1 e1'
  obtain ⟨a,c,hv⟩:∃ a c,v'=.slice a o.length c:=by
   rcases e3.2 with ⟨e,hn⟩ | ⟨g,c,cur,e,_⟩
   ·exact ⟨none,0,by rw [e,hn]⟩
   ·exact ⟨_,c,e⟩
  refine ⟨hb,v',e2,⟨a,c,hv⟩,?_,e4,e5⟩
  subst hv
  exact reads_row e3 rfl
 ·cases e1
theorem conv_str {w:World} {v:Value} {o:List Nat} (h:Reads w v o) (hs:∀ z∈o,z<256):(convert 22 9 v).run Tryz.prog w=.ok (.string (strOf o)) w:=conv_reads h hs
end
namespace W4
open Go.RowKit Mth Infl Defl
attribute [local go_sem ↓] wp_at_zero wp_at_succ
theorem TextAt.on {w w1:World} {a:Option Addr} {c:Nat} {zs:List Nat} (h:TextAt w a c zs) (hb:Below w.heap.size w w1):TextAt w1 a c zs:=by
 rcases h with h | ⟨ad,h1,h2⟩
 ·exact .inl h
 ·exact .inr ⟨ad,h1,fun j u hj=>cell_stays hb (h2 j u hj)⟩
theorem TextAt.reads {w:World} {a:Option Addr} {c:Nat} {zs:List Nat} (h:TextAt w a c zs):YtabeanealkopbaaGreat.Reads w (.slice a zs.length c) zs:=by
 refine ⟨a,c,rfl,fun h0=>?_⟩
 rcases h with ⟨_,_,rfl⟩ | ⟨ad,h1,h2⟩
 ·simp at h0
 ·exact ⟨ad,h1,h2⟩
theorem row_text {w:World} {g n:Nat} {P:List Nat} (h:w.heap[g]?=some (.cells (P.map bv).toArray 5 (0,0))) (hn:P.length=n):TextAt w (some ⟨g,0,none⟩) n P:=.inr ⟨_,rfl,fun j u hj=>by
 have ea:(⟨g,0,none⟩:Addr).add j=⟨g,j,none⟩:=by by_cases hq:j=0 <;> simp [Addr.add,hq]
 rw [ea]
 simp only [World.cell?,h]
 simpa using hj⟩
theorem kind_of (x:Int):∃ (r s:Int) (t:Nat),x.tmod 4=r∧r+4=s∧0≤s∧s≤8∧s.tmod 4=(t:Int)∧t≤3:=by
 have h1:=Int.tmod_lt_of_pos x (show (0:Int)<4 by omega)
 have h2:=Int.lt_tmod_of_pos x (show (0:Int)<4 by omega)
 have h3:0≤x.tmod 4+4:=by omega
 have h4:=Int.tmod_nonneg 4 h3
 have h5:=Int.tmod_lt_of_pos (x.tmod 4+4) (show (0:Int)<4 by omega)
 obtain ⟨t,ht⟩:=Int.eq_ofNat_of_zero_le h4
 exact ⟨_,_,t,rfl,rfl,by omega,by omega,ht,by omega⟩
theorem pk_small (m:Nat) (L:List Bool):∀ z∈pk false m L,z<256:=by
 intro z hz
 unfold pk at hz
 rw [List.mem_map] at hz
 obtain ⟨i,_,rfl⟩:=hz
 exact octet_lt _ _ _
theorem deflF_len (zs:List Nat) (k kind:Nat) (hz:∀ z∈zs,z<256) (hk1:1≤k) (hk2:k≤65535) (hn:zs.length≤10000000):∀ (f fr:Nat) (B:List Bool),B.length≤40000*fr→fr<zs.length∨fr=0→(deflF zs k kind (tkOf zs) plOf f fr B).length≤40000*(zs.length+k)
 | 0,fr,B,h1,h2=>by rw [deflF];omega
 | f+1,fr,B,h1,h2=>by
  have ho:=own_le zs k hz hk1 hk2 hn kind fr B.length h2
  rw [deflF]
  by_cases h:zs.length≤fr+k
  ·rw [if_pos h,List.length_append]
   omega
  ·rw [if_neg h]
   refine deflF_len zs k kind hz hk1 hk2 hn f (fr+k) _ ?_ (.inl (by omega))
   rw [List.length_append]
   omega
theorem back_walk (zs:List Nat) (a:Option Addr) (c:Nat) (bk kn:Int) (w:World) (ht:TextAt w a c zs) (hz:∀ z∈zs,z<256) (hc:zs.length≤c) (hcM:c≤9223372036854775807) (hn:zs.length≤1048576) (hbk:(Lit.int .i64 bk).wf=true) (hkn:(Lit.int .i64 kn).wf=true) (hml:T6.ML w) :
  Calls Tryz.prog 4 #[.slice a zs.length c,.int .i64 bk,.int .i64 kn] w fun e w'=>e=.returned (.bool true)∧Below w.heap.size w w':=by
 obtain ⟨r,s,t,K,hr1,hr2,hs1,hs2,ht1,hK,hK1,hK2⟩:=size_of bk
 obtain ⟨r',s',kd,hr1',hr2',hs1',hs2',ht1',hkd3⟩:=kind_of kn
 obtain ⟨L,hL⟩:∃ L,L=deflF zs K kd (tkOf zs) plOf (zs.length+1) 0 []:=⟨_,rfl⟩
 obtain ⟨L0,hL0⟩:∃ L0,L0=deflF zs K 0 (tkOf zs) plOf (zs.length+1) 0 []:=⟨_,rfl⟩
 obtain ⟨M,hM⟩:∃ M,M=(L.length+7) / 8:=⟨_,rfl⟩
 obtain ⟨M0,hM0⟩:∃ M0,M0=(L0.length+7) / 8:=⟨_,rfl⟩
 obtain ⟨D,hD⟩:∃ D,D=zs.length / K:=⟨_,rfl⟩
 have hfK:zs.length<(zs.length+1)*K:=Nat.lt_of_lt_of_le (Nat.lt_succ_self _) (Nat.le_mul_of_pos_right _ (by omega))
 have hbest:M0≤M+(D+1):=by
  have:=best_bytes (zs:=zs) (k:=K) (kind:=kd) (tk:=tkOf zs) (pl:=plOf) hK1 (zs.length+1) hfK
  rw [← hL,← hL0,← hM,← hM0,← hD] at this
  exact this
 have hM9:M≤100000000000:=by
  have:=deflF_len zs K kd hz hK1 hK2 (by omega) (zs.length+1) 0 [] (by simp) (.inr rfl)
  rw [← hL] at this
  omega
 have htell:Tells gg ce (Infl.bitsOf (pk false M L)) zs.length (.ok zs L.length):=by
  rw [hM]
  exact defl_tells (kind:=kd) (tools_ok hz) hz hK1 hK2 (zs.length+1) hfK L hL
 have HD:Hid (Calls Tryz.prog 6 #[.slice a zs.length c,.int .i64 (K:Int),.int .i64 (kd:Int)] w fun e w'=>∃ g,e=.returned (.tuple #[.slice (some ⟨g,0,none⟩) M M,.int .i64 0])∧w'.heap[g]?=some (.cells ((pk false M L).map bv).toArray 5 (0,0))∧w.heap.size≤g∧Below w.heap.size w w'):=qz ((deflate_ok zs a c K w kd hkd3 ht hz hc hcM hK1 hK2 (by omega) hml).mono (by
  rintro e w' ⟨g,L',h1,h2⟩
  rw [← hL] at h1
  subst h1
  rw [← hM] at h2
  exact ⟨g,h2⟩))
 have HB:Hid (∀ w1,Below w.heap.size w w1→Calls Tryz.prog 6 #[.slice a zs.length c,.int .i64 (K:Int),.int .i64 0] w1 fun e w'=>∃ g,e=.returned (.tuple #[.slice (some ⟨g,0,none⟩) M0 M0,.int .i64 0])∧Below w1.heap.size w1 w'):=qz (fun w1 hb=>(deflate_ok zs a c K w1 0 (by omega) (ht.on hb) hz hc hcM hK1 hK2 (by omega) (T6.ML.stays hb hml)).mono (by
  rintro e w' ⟨g,L',h1,h2,h3,h4,h5⟩
  rw [← hL0] at h1
  subst h1
  rw [← hM0] at h2
  exact ⟨g,h2,h5⟩))
 have HI:Hid (∀ w2 g,TextAt w2 (some ⟨g,0,none⟩) M (pk false M L)→Calls Tryz.prog 8 #[.slice (some ⟨g,0,none⟩) M M,.int .i64 (zs.length:Int)] w2 fun e w'=>ReadIs (.ok zs L.length) zs.length (pk false M L) w2 e w'):=qz (fun w2 g h=>by
  have hl:(pk false M L).length=M:=pk_length _ _ _
  have:=inflate_is (some ⟨g,0,none⟩) M (pk false M L) zs.length w2 (.ok zs L.length) ⟨by omega,h.reads⟩ (by
   omega) (pk_small _ _) (by omega) htell
  rw [hl] at this
  exact this)
 have HT:=qz ht
 have HZ:=qz hz
 have hcb:∀ w1,Below w.heap.size w w1→(convert 22 9 (.slice a zs.length c)).run Tryz.prog w1=.ok (.string (strOf zs)) w1:=fun w1 hb=>conv_str (ht.on hb).reads hz
 have HCB:=qz hcb
 have HPL:Hid ((pk false M L).length=M):=qz (pk_length _ _ _)
 have HME:Hid (((L.length+7) / 8:Nat)=M):=qz hM.symm
 obtain ⟨n,hN⟩:∃ n,n=zs.length:=⟨_,rfl⟩
 rw [← hN] at HD HB HI HCB hD hn hc ⊢
 have HN:=qz hN
 have hDn:D≤n:=by rw [hD];exact Nat.div_le_self _ _
 have d1:(n:Int).tdiv (K:Int)=(D:Int):=by rw [hD];rfl
 have d2:(M0:Int)≤(M:Int)+((D:Int)+1):=by omega
 have d3:¬ 268435456<(n:Int):=by omega
 clear ht hz hml hL hL0 hM hM0 hD hbest htell hcb hN hfK
 go_enter Tryz.func4,Tryz.ntmps4
 go_wp2_with fail
 refine (uh HD).mono ?_
 rintro e w1 ⟨g,rfl,g1,g2,g3⟩
 have HX1:Hid (TextAt w1 (some ⟨g,0,none⟩) M (pk false M L)):=qz (row_text g1 (uh HPL))
 have HB1:=qz g3
 have HBB:=qz (uh HB w1 g3)
 clear g1 g3 HD HB
 go_wp2_with fail
 refine (uh HBB).mono ?_
 rintro e w2 ⟨g',rfl,k1⟩
 have HB2:Hid (Below w.heap.size w w2):=qz ((uh HB1).trans (k1.mono (uh HB1).size))
 have HII:=qz (uh HI w2 g ((uh HX1).on k1))
 clear k1 HBB HI HX1
 go_wp2_with fail
 refine (uh HII).mono ?_
 rintro e w3 hri
 obtain ⟨hb3,v',rfl,⟨ya,yc,rfl⟩,hrd,-,-⟩:=hri.ok
 rw [uh HME]
 have HB3:Hid (Below w.heap.size w w3):=qz ((uh HB2).trans (hb3.mono (uh HB2).size))
 have c1:=conv_str hrd (uh HZ)
 have c2:=uh HCB w3 (uh HB3)
 rw [← uh HN] at c1 ⊢
 generalize strOf zs=S at c1 c2
 clear hri hb3 hrd HII
 go_wp2_with fail
 go_ret
 exact ⟨rfl,uh HB3⟩
end W4
namespace W4
open Go.ChangeShapes Go.WideShapes Go.ChangeAt Go.RowKit Go.Deep Go.Joins
theorem own:ownKnob Tryz.prog.godebug=none:=by kernel_rfl
theorem laidOut:laidOutB Tryz.prog=true:=by kernel_rfl
theorem cells5:Tryz.prog.cellsOf 5=1:=by kernel_rfl
theorem bulk_pos {H:Type} (d:DataW H):1≤Rows.uptoBulk d:=by
 cases d with
 | lit l=>cases l <;> simp [Rows.uptoBulk]
 | _=>simp [Rows.uptoBulk]
theorem bulk_len {H:Type} (l:List (DataW H)):l.length≤Rows.uptoBulkAll l:=by
 induction l with
 | nil=>simp [Rows.uptoBulkAll]
 | cons x r ih=>have:=bulk_pos x;simp only [Rows.uptoBulkAll,List.length_cons];omega
theorem bulk_slice {H:Type} (elems spare:List (DataW H)):elems.length≤Rows.uptoBulk (.slice elems spare):=by
 have:=bulk_len elems
 simp only [Rows.uptoBulk];omega
variable {H:Type} {enc:TypeId × Value→H} {W:World}
theorem bytes_of {fuel:Nat} {cs:List Value} {y:DataW H × List MemPlace} (h:DataW.trod enc Tryz.prog W 0 (fun _=>true) true fuel 22 cs=some y) :
  ∃ (a:Option Addr) (cap:Nat) (zs:List Nat),cs=[.slice a zs.length cap]∧zs.length≤cap∧cap≤9223372036854775807∧TextAt W a cap zs∧(∀ z∈zs,z<256)∧zs.length≤Rows.uptoBulk y.1:=by
 rcases open_ints Tryz.underlying22 Tryz.underlying5 cells5 h with ⟨hcs,hy⟩ | ⟨x,l,c,ys,hcs,_,hl,hm,hz,hx,hcell,hwz⟩
 ·exact ⟨none,0,[],hcs,Nat.le_refl _,by omega,.inl ⟨rfl,rfl,rfl⟩,by simp,by simp⟩
 ·simp at hz
  have hb:∀ y∈ys,0≤y∧y≤255:=fun y hy=>bounds_u8 (hwz y hy)
  have hlen:((ys.take l).map Int.toNat).length=l:=by simp;omega
  refine ⟨some x,c,(ys.take l).map Int.toNat,by rw [hlen];exact hcs,by rw [hlen];exact hl,by unfold maxLen at hm;omega,.inr ⟨x,rfl,fun j u hj=>?_⟩,?_,?_⟩
  ·have hj2:j<l:=by
    have:=(List.getElem?_eq_some_iff.1 hj).1
    simp at this;omega
   rw [hcell j (by omega)]
   rw [List.getElem?_map,List.getElem?_map,List.getElem?_take,if_pos hj2,List.getElem?_eq_getElem (by omega)] at hj
   simp [bv] at hj
   rw [← hj]
   have:=hb ys[j] (List.getElem_mem _)
   simp [show j<ys.length by omega]
   omega
  ·intro z hz'
   obtain ⟨y,hy,rfl⟩:=List.mem_map.1 hz'
   have:=hb y (List.mem_of_mem_take hy)
   omega
  ·rw [hlen]
   have h1:=bulk_slice (lits .u8 (ys.take l):List (DataW H)) (lits .u8 (ys.drop l))
   rw [hx]
   refine Nat.le_trans ?_ h1
   simp [lits];omega
end W4
namespace W4
open Go.ChangeShapes Go.WideShapes Go.ChangeAt Go.RowKit Go.Deep Go.Joins
theorem cond_shaped {H:Type} {enc:TypeId × Value→H} {a:Assume} {C:Checked} {os:Os} {f:FuncId} {fn:Func} {s:OpenSpec} {k:(H:Type)→List (DataW H)→Bool} (hk:s.cond=some k) {F:Stop.Interp} {conds:List PathCond} {apart fresh handsOn again:Bool}
  (own:ownKnob C.prog.godebug=none) (started:os.Started) (noInit:C.prog.inits.idxOf? f=none) (hfn:C.prog.funcs[f]?=some fn)
  (witness:∃ (w:World) (tape:Tape) (i:Input),w.os=os∧(w.forCall tape i).Shaped C.prog∧i.vars=[]∧Input.okWide C.prog (w.forCall tape i) .any w.heap.size f i ∧
   s.pre6 enc C.prog fn conds apart (w.forCall tape i).memory i.args∧a.holds C.prog (lone (Frame.enter C.prog f i.args .normal) [] (w.forCall tape i)))
  (contract:∀ (W:World) (base:Nat) (args:Array Value) (ds gs:List (DataW H)) (before:List MemPlace),
   (∀ (j:Nat) t v,fn.params[j]?=some t→args[j]?=some v→Value.okWide C.prog W .any base t v) →
   DataW.Whole enc C.prog fn.params.toList s.vars apart W args.toList ds gs before →
   conds.all (PathCond.test C.prog ⟨fn.params.toList,ds,s.bare.plain.varTypes C.prog,gs⟩)=true→k H (ds++gs)=true→W.ShapedOpen C.prog →
   a.holds C.prog (lone (Frame.enter C.prog f args .normal) [] W) →
   Calls C.prog f args W fun e W'=>∃ v,e=.returned v∧(s.at F).post enc C.prog fn apart fresh handsOn again W args v W') :
  ReturnsInHanded a C os f .any (s.pre6 enc C.prog fn conds apart) ((s.at F).post enc C.prog fn apart fresh handsOn again):=by
 refine returnsInHanded_of_calls own started noInit witness ?_
 intro w tape i _ hsh _ hok hpre hholds
 obtain ⟨_,_,_,fn',hfn',_,_,_,_,hval⟩:=hok
 have e:fn'=fn:=Option.some.inj (hfn'.symm.trans hfn)
 subst e
 obtain ⟨ds,gs,before,hw,hc,hkk⟩:=(OpenSpec.pre_some hk conds apart _ _).1 hpre.1
 have hw':=DataW.Whole.of_heap (w':=w.forCall tape i) (by rfl) hw
 refine (contract (w.forCall tape i) w.heap.size i.args ds gs before hval hw' hc hkk hsh hholds).mono fun e W' ⟨v,he,hp⟩=>?_
 subst he
 exact ChangeSpec.post_blind hp
theorem ml_of {W:World} (h:W.ShapedOpen Tryz.prog):T6.ML W:=Tryz.laysM185.s1_3 W h
end W4
end Go.Proofs.YtabeanealkopbaaGreat
section
namespace Go.Proofs.YtabeanealkopbaaGreat.DeflateBackFrame
open Go.ChangeShapes Go.WideShapes Go.ChangeAt Go.RowKit Go.Deep Go.Joins W4
theorem contract (H:Type) (enc:TypeId × Value→H) (W:World) (base:Nat) (args:Array Value) (ds gs:List (DataW H)) (before:List MemPlace)
  (hval:∀ (j:Nat) t v,Tryz.f4.params[j]?=some t→args[j]?=some v→Value.okWide Tryz.prog W .any base t v)
  (hW:DataW.Whole enc Tryz.prog Tryz.f4.params.toList Rows.deflateBackSpec.vars false W args.toList ds gs before) (hk:Rows.uptoSmall H (ds++gs)=true) (hml:T6.ML W) :
  Calls Tryz.prog 4 args W fun e W'=>∃ v,e=.returned v∧Rows.deflateBackSpec.post enc Tryz.prog Tryz.f4 false true false false W args v W':=by
 have hW':=hW
 obtain ⟨p,q,hA0,hV,rfl,hfz,hnd⟩:=hW
 have hA:DataW.TrodAll enc Tryz.prog W 0 (fun _=>true) true Tryz.f4.params.toList args.toList ds p:=hA0
 rw [Tryz.params4] at hA hval
 obtain ⟨v0,vs0,d0,ds0,p0,q0,hargs,rfl,rfl,h0,r0⟩:=trodAll_cons hA
 obtain ⟨v1,vs1,d1,ds1,p1,q1,rfl,rfl,rfl,h1,r1⟩:=trodAll_cons r0
 obtain ⟨v2,vs2,d2,ds2,p2,q2,rfl,rfl,rfl,h2,r2⟩:=trodAll_cons r1
 obtain ⟨rfl,rfl,rfl⟩:=trodAll_nil r2
 obtain rfl:args=#[v0,v1,v2]:=by cases args;simp_all
 obtain ⟨rfl,rfl⟩:=trodVars_none hV
 have hbulk:Rows.uptoBulk d0+Rows.uptoBulk d1+Rows.uptoBulk d2≤1048576:=by
  have:=of_decide_eq_true hk
  simp only [List.append_nil,Rows.uptoBulkAll] at this
  omega
 have k0:=h0
 have lt0:∀ x∈p0,x.block<W.heap.size:=by obtain ⟨m,hm⟩:=k0;exact DataW.trod_lt m _ _ _ hm
 obtain ⟨xa0,xl0,xc0,rfl⟩:=okWide_slice Tryz.underlying22 (hval 0 22 v0 rfl rfl)
 obtain ⟨fuel0,hf0⟩:=h0
 obtain ⟨a0,cap0,zs0,e0,hc0,hcm0,hr0,hs0,hy0⟩:=bytes_of hf0
 simp [Value.cells] at e0
 obtain ⟨rfl,rfl,rfl⟩:=e0
 have hn0:zs0.length≤1048576:=by
  try simp only at hy0
  omega
 have k1:=h1
 obtain ⟨I1,rfl,rfl,_,w1⟩:=open_int Tryz.underlying3 (hval 1 3 v1 rfl rfl) h1
 have k2:=h2
 obtain ⟨I2,rfl,rfl,_,w2⟩:=open_int Tryz.underlying3 (hval 2 3 v2 rfl rfl) h2
 clear hA0
 refine (back_walk zs0 _ _ I1 I2 W hr0 hs0 hc0 hcm0 hn0 w1 w2 hml).mono fun e W' ⟨he,bel⟩=>?_
 subst he
 exact ⟨_,rfl,_,_,_,[],_,[],hW',trodAll_mk1 (shut_bool Tryz.underlying4 _),(trodAll_cons_mk (Below.trod laidOut (by kernel_rfl) (of_decide_eq_true (by kernel_rfl)) k0 bel lt0) (trodAll_cons_mk (shut_int Tryz.underlying3 w1) (trodAll_cons_mk (shut_int Tryz.underlying3 w2) trodAll_mk0))),rfl,bel.frame _,fun h=>by cases h⟩
theorem lifted (os:Os) (started:os.Started) (H:Type) (enc:TypeId × Value→H) (F:Stop.Interp) :
  ReturnsInHanded {} Tryz.checked os 4 .any ((Rows.OpenSpec.upto Rows.deflateBackSpec).pre6 enc Tryz.prog Tryz.f4 Rows.deflateBackUptoRow.domain false) (((Rows.OpenSpec.upto Rows.deflateBackSpec).at F).post enc Tryz.prog Tryz.f4 false true false false):=by
 refine cond_shaped (C:=Tryz.checked) (s:=Rows.OpenSpec.upto Rows.deflateBackSpec) (k:=Rows.uptoSmall) rfl own started (by kernel_rfl) Tryz.func4
  (OpenSpec.witness (enc:=enc) (C:=Tryz.checked) (s:=Rows.OpenSpec.upto Rows.deflateBackSpec) (k:=Rows.uptoSmall) rfl false ⟨#[],#[.slice none 0 0,.int .i64 0,.int .i64 0],[]⟩ 8 (by kernel_rfl) (by kernel_rfl) (by kernel_rfl)
   (x:=([.nil,.lit (.int .i64 0),.lit (.int .i64 0)],[],[])) (by kernel_rfl) rfl (by kernel_rfl)) ?_
 intro W base args ds gs before hval hW _ hk hsh _
 exact contract H enc W base args ds gs before hval hW hk (ml_of hsh)
theorem proved:Rows.DeflateBackUptoSaid :=
 OpenClaim.holds_of_cond 4 Tryz.f4 rfl rfl rfl rfl rfl rfl rfl ⟨rfl,rfl,rfl,rfl,rfl⟩ rfl rfl rfl rfl rfl (by kernel_rfl) Tryz.func4 (by kernel_rfl)
  (of_decide_eq_true (by kernel_rfl)) (by unfold Func.isWrapper;first | (rw [if_pos (by decide +kernel)];kernel_rfl) | (rw [if_neg (by decide +kernel)];exact ⟨rfl,rfl⟩))
  (fun os started H enc _ F=>lifted os started H enc F)
end Go.Proofs.YtabeanealkopbaaGreat.DeflateBackFrame
namespace Go.Proofs.YtabeanealkopbaaGreat
theorem deflateBackUpto_holds:Rows.DeflateBackUptoSaid:=DeflateBackFrame.proved
end Go.Proofs.YtabeanealkopbaaGreat
end
namespace Go.Proofs.YtabeanealkopbaaGreat
end Go.Proofs.YtabeanealkopbaaGreat
