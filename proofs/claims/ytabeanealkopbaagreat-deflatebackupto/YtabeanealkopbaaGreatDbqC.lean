/- Texts of one proof, one behind the other: CGet, Looks, Re, Out, Tk, Jump, Pc, St, Toks, Fx, Nw, Cod, Rp, Inn, Lns, Cn. -/
import Derived.Test.YtabeanealkopbaaGreatDbqB
import Derived.ChangeKeysEq
import Derived.ScopeJumps
import Derived.WalkMore
import Derived.WalkKit

set_option linter.unusedVariables false
set_option maxRecDepth 100000
set_option maxHeartbeats 24000000
namespace Go.Proofs.YtabeanealkopbaaGreat
section
open Go.RowKit Mth
attribute [local go_sem ↓] wp_at_zero wp_at_succ
structure GetAt (ls:List Nat) (w ws:World) (cp lo hi wg g cap N base:Nat) (A B S:Nat→Nat) (H:Nat→Bool) (ix ky:Nat→Nat) (rp gr ab:Nat) (high:Bool) (zs:List Nat) (f:Nat→Bool) (t j a:Nat):Prop where
 code:CodeAt ls ws cp lo hi wg g cap N base A B S H ix ky
 rd:ROk ws rp high gr zs t
 var:ws.heap[ab]?=some (.cells #[.int .i32 (A a:Int),.int .i32 (B a:Int),.int .i32 (S a:Int),.bool (H a)] 191 (0,0))
 only:Only rp w ws
 new:w.heap.size≤ab
 o1:rp<lo∨hi≤rp
 o2:hi≤ab
 o3:rp≠ab
 o4:gr≠ab
 al:a=ix (kf f j)
 beg:Beg ls ls.length (kf f j)
 pre:∀ i,1≤i→i<j→Pre ls (kf f i)
section
variable {ls:List Nat} {w ws w2:World} {cp lo hi wg g cap N base:Nat} {A B S:Nat→Nat} {H:Nat→Bool} {ix ky:Nat→Nat} {rp gr ab:Nat} {high:Bool} {zs:List Nat} {f:Nat→Bool} {t j a:Nat}
theorem CodeAt.keep (h:CodeAt ls ws cp lo hi wg g cap N base A B S H ix ky) (hk:∀ k,lo≤k→k<hi→w2.heap[k]?=ws.heap[k]?):CodeAt ls w2 cp lo hi wg g cap N base A B S H ix ky :=
 ⟨by rw [hk _ h.b1.1 h.b1.2];exact h.blk,by unfold WordsAt;rw [hk _ h.b2.1 h.b2.2];exact h.words,h.nodes.keep (hk _ h.b3.1 h.b3.2),h.tr,h.good,h.small,h.b1,h.b2,h.b3⟩
theorem GetAt.read (h:GetAt ls w ws cp lo hi wg g cap N base A B S H ix ky rp gr ab high zs f t j a) (q t':Nat) (ht:t'≤8*zs.length) :
  GetAt ls w ((ws.drewN q).setCell ⟨rp,3,none⟩ (.int .i64 (t':Int))) cp lo hi wg g cap N base A B S H ix ky rp gr ab high zs f t' j a:=by
 refine ⟨h.code.keep (fun k h1 h2=>?_),(h.rd.drewN q).set t' ht,?_,h.only.trans ((Only.drewN rp ws q).set 3 _),h.new,h.o1,h.o2,h.o3,h.o4,h.al,h.beg,h.pre⟩
 ·rw [heap_setCell_other _ _ _ _ (by have:=h.o1;show k≠rp;omega)];rfl
 ·rw [heap_setCell_other _ _ _ _ (by exact h.o3.symm)];exact h.var
theorem GetAt.drew (h:GetAt ls w ws cp lo hi wg g cap N base A B S H ix ky rp gr ab high zs f t j a):GetAt ls w ws.drew cp lo hi wg g cap N base A B S H ix ky rp gr ab high zs f t j a :=
 ⟨h.code.keep (fun k h1 h2=>rfl),⟨h.rd.blk,h.rd.row,h.rd.ne,h.rd.le,h.rd.small⟩,h.var,h.only.trans (Only.drew rp ws),h.new,h.o1,h.o2,h.o3,h.o4,h.al,h.beg,h.pre⟩
def lay4 (ws:World) (ab:Nat) (x0 x1 x2 x3:Value):World:=(((ws.setCell ⟨ab,0,none⟩ x0).setCell ⟨ab,1,none⟩ x1).setCell ⟨ab,2,none⟩ x2).setCell ⟨ab,3,none⟩ x3
theorem lay4_other (ws:World) (ab:Nat) (x0 x1 x2 x3:Value) (k:Nat) (hk:k≠ab):(lay4 ws ab x0 x1 x2 x3).heap[k]?=ws.heap[k]?:=by
 unfold lay4
 rw [heap_setCell_other _ _ _ _ (by exact hk),heap_setCell_other _ _ _ _ (by exact hk),heap_setCell_other _ _ _ _ (by exact hk),heap_setCell_other _ _ _ _ (by exact hk)]
theorem GetAt.outs (h:GetAt ls w ws cp lo hi wg g cap N base A B S H ix ky rp gr ab high zs f t j a) (x0 x1 x2 x3:Value):ROk (lay4 ws ab x0 x1 x2 x3) rp high gr zs t∧Only rp w (lay4 ws ab x0 x1 x2 x3):=by
 refine ⟨h.rd.keep (lay4_other _ _ _ _ _ _ _ h.o3) (lay4_other _ _ _ _ _ _ _ h.o4),h.only.os,h.only.tape,h.only.output,?_,fun k h1 h2=>?_⟩
 ·have:=h.only.size;simpa [lay4] using this
 ·rw [lay4_other _ _ _ _ _ _ _ (by have:=h.new;omega)];exact h.only.keep k h1 h2
theorem GetAt.next (h:GetAt ls w ws cp lo hi wg g cap N base A B S H ix ky rp gr ab high zs f t j a) (a':Nat) (ha:a'=ix (kf f (j+1))) (hb:Beg ls ls.length (kf f (j+1))) (hp:1≤j→Pre ls (kf f j)) :
  GetAt ls w (lay4 ws ab (.int .i32 (A a':Int)) (.int .i32 (B a':Int)) (.int .i32 (S a':Int)) (.bool (H a'))) cp lo hi wg g cap N base A B S H ix ky rp gr ab high zs f t (j+1) a':=by
 obtain ⟨r1,r2⟩:=h.outs (.int .i32 (A a':Int)) (.int .i32 (B a':Int)) (.int .i32 (S a':Int)) (.bool (H a'))
 refine ⟨h.code.keep (fun k h1 h2=>lay4_other _ _ _ _ _ _ _ (by have:=h.o2;omega)),r1,?_,r2,h.new,h.o1,h.o2,h.o3,h.o4,ha,hb,fun i h1 h2=>?_⟩
 ·unfold lay4
  rw [heap_setCell_same _ ab 3 _ 191 _ (heap_setCell_same _ ab 2 _ 191 _ (heap_setCell_same _ ab 1 _ 191 _ (heap_setCell_same _ ab 0 _ 191 _ h.var)))]
  simp
 ·by_cases e:i=j
  ·subst e;exact hp h1
  ·exact h.pre i h1 (by omega)
theorem GetAt.node (h:GetAt ls w ws cp lo hi wg g cap N base A B S H ix ky rp gr ab high zs f t j a):1≤a∧a<N∧ky a=kf f j:=by
 obtain ⟨h1,h2,h3,_⟩:=h.code.tr.inX _ h.beg
 rw [← h.al] at h1 h2 h3
 exact ⟨h1,h2,h3⟩
theorem GetAt.word (h:GetAt ls w ws cp lo hi wg g cap N base A B S H ix ky rp gr ab high zs f t j a) {i:Nat} (hi:Wrd ls ls.length i (kf f j)):H a=true∧S a=i∧1≤j:=by
 obtain ⟨h1,h2,h3⟩:=h.node
 have hm:=(h.code.tr.mark a h1 h2).1 i (by rw [h3];exact hi)
 refine ⟨hm.1,hm.2,?_⟩
 rcases j with _ | j
 ·exfalso
  have hk:=hi.2.2
  have hp:2 ^ 1≤2 ^ Canon.ln ls i:=Nat.pow_le_pow_right (by decide) hi.2.1
  unfold key at hk
  simp only [kf] at hk
  omega
 ·omega
theorem GetAt.noword (h:GetAt ls w ws cp lo hi wg g cap N base A B S H ix ky rp gr ab high zs f t j a) (hn:∀ i,¬ Wrd ls ls.length i (kf f j)):H a=false∧S a=0:=by
 obtain ⟨h1,h2,h3⟩:=h.node
 exact (h.code.tr.mark a h1 h2).2 (by rw [h3];exact hn)
theorem GetAt.kid (h:GetAt ls w ws cp lo hi wg g cap N base A B S H ix ky rp gr ab high zs f t j a):(f j=false→A a=ix (kf f (j+1)))∧(f j=true→B a=ix (kf f (j+1))):=by
 obtain ⟨h1,h2,h3⟩:=h.node
 have hk:=h.code.tr.kid a h1 h2
 rw [h3] at hk
 refine ⟨fun e=>?_,fun e=>?_⟩
 ·rw [hk.1,kf,e];rfl
 ·rw [hk.2,kf,e];rfl
theorem GetAt.zero (h:GetAt ls w ws cp lo hi wg g cap N base A B S H ix ky rp gr ab high zs f t j a) (hb:¬ Beg ls ls.length (kf f (j+1))):ix (kf f (j+1))=0∧A 0=0∧B 0=0∧S 0=0∧H 0=false :=
 ⟨h.code.tr.no _ hb,h.code.tr.out 0 (.inl rfl)⟩
theorem GetAt.full (h:GetAt ls w ws cp lo hi wg g cap N base A B S H ix ky rp gr ab high zs f t j a) (hb:Beg ls ls.length (kf f (j+1))) (a':Nat) (ha:a'=ix (kf f (j+1))):a'<N∧(A a'≠0∨B a'≠0∨H a'=true):=by
 obtain ⟨h1,h2,h3,_⟩:=h.code.tr.inX _ hb
 rw [← ha] at h1 h2 h3
 refine ⟨h2,?_⟩
 by_cases hw:∃ i,Wrd ls ls.length i (kf f (j+1))
 ·obtain ⟨i,hi⟩:=hw
  exact .inr (.inr ((h.code.tr.mark a' h1 h2).1 i (by rw [h3];exact hi)).1)
 ·obtain ⟨b,hb1,hc⟩:=Pre.child h.code.good ⟨hb,fun i hi=>hw ⟨i,hi⟩⟩ (fun e=>by have:=kf_two f (j+1) (by omega);omega)
  have hk:=h.code.tr.kid a' h1 h2
  rw [h3] at hk
  have hx:=(h.code.tr.inX _ hc).1
  by_cases e:b=0
  ·subst e;left;rw [hk.1];simp only [Nat.add_zero] at hx;omega
  ·obtain rfl:b=1:=by omega
   right;left;rw [hk.2];omega
theorem GetAt.v (h:GetAt ls w ws cp lo hi wg g cap N base A B S H ix ky rp gr ab high zs f t j a):ws.cell? ⟨ab,0,none⟩=some (.int .i32 (A a:Int))∧ws.cell? ⟨ab,1,none⟩=some (.int .i32 (B a:Int))∧ws.cell? ⟨ab,2,none⟩=some (.int .i32 (S a:Int))∧ws.cell? ⟨ab,3,none⟩=some (.bool (H a)):=by
 simp [World.cell?,h.var]
theorem GetAt.fz (h:GetAt ls w ws cp lo hi wg g cap N base A B S H ix ky rp gr ab high zs f t j a) (k:Nat):ws.frozen? ⟨ab,k,none⟩=false:=by
 simp [World.frozen?,h.var]
theorem getAt_start (h:CodeAt ls w cp lo hi wg g cap N base A B S H ix ky) (hrd:ROk w rp high gr zs t) (ho:rp<lo∨hi≤rp) (hhi:hi≤w.heap.size) :
  GetAt ls w (w.alloc (.cells #[.int .i32 (A 1:Int),.int .i32 (B 1:Int),.int .i32 (S 1:Int),.bool (H 1)] 191)) cp lo hi wg g cap N base A B S H ix ky rp gr w.heap.size high zs f t 0 1:=by
 have l1:=hrd.lt
 have l2:=heap_lt hrd.row
 have e:=(h.tr.inK 1 (by omega) (by have:=h.tr.two;omega)).2
 rw [h.tr.root] at e
 exact ⟨h.keep (fun k h1 h2=>Below.heap_alloc _ _ _ (by omega)),hrd.keep (Below.heap_alloc _ _ _ l1) (Below.heap_alloc _ _ _ l2),heap_alloc_new _ _,Only.alloc _ _ _,Nat.le_refl _,ho,hhi,by omega,by omega,by rw [kf,e],.inl rfl,fun i h1 h2=>by omega⟩
end
theorem info21:(Tryz.prog.info? 21).map (fun i=>(i.zero,i.size,i.bytes))=some (some (.int .i32 0),1,4):=by kernel_rfl
theorem eq_pair (w:World) (x y:Int):(Op.equalIn 9999 189 (.agg #[.int .i32 x,.int .i32 y]) (.agg #[.int .i32 0,.int .i32 0])).run Tryz.prog w=.ok (decide (x=0) && decide (y=0)) w:=by
 obtain ⟨i0,hi,hz0,hz1,hz2⟩:=info_parts info21
 have:=run_equalIn_array (P:=Tryz.prog) (w:=w) 9998 #[.int .i32 x,.int .i32 y] #[.int .i32 0,.int .i32 0] Tryz.underlying189 hi
 rw [this]
 rw [show List.range 2=[0,1] from rfl,show Tryz.prog.cellsOf 21=1 by kernel_rfl]
 simp only [Op.eqItems,Sem.run_bind]
 by_cases hx:x=0
 ·by_cases hy:y=0
  ·subst hx hy
   go_simp
  ·go_simp
 ·go_simp
theorem eq_pair_no (w:World) (x y:Nat) (h:¬ (x=0∧y=0)):(Op.equalIn 9999 189 (.agg #[.int .i32 (x:Int),.int .i32 (y:Int)]) (.agg #[.int .i32 0,.int .i32 0])).run Tryz.prog w=.ok false w:=by
 rw [eq_pair]
 congr 1
 by_cases hx:x=0
 ·have hy:y≠0:=fun e=>h ⟨hx,e⟩
  simp [hy]
 ·simp [hx]
theorem num_one (high:Bool) (zs:List Nat) (t:Nat):(numAt high (1:Int).toNat (fun i=>bitIn high zs (t+i)):Int)=((bitIn high zs t).toNat:Int):=by
 have:numAt high 1 (fun i=>bitIn high zs (t+i))=(bitIn high zs t).toNat:=by
  cases high <;> simp [numAt,acc,rk]
 exact congrArg _ this
theorem cget_ok (ls:List Nat) (cp lo hi rp gr p:Nat) (high:Bool) (zs:List Nat) (w:World) (h:Code ls w cp lo hi) (hrd:ROk w rp high gr zs p) (hn:zs.length≤140737488355328) (ho:rp<lo∨hi≤rp) (hhi:hi≤w.heap.size) :
  Calls Tryz.prog 131 #[.pointer (some ⟨cp,0,none⟩),.pointer (some ⟨rp,0,none⟩)] w fun e w'=>∃ (s n x:Nat),e=.returned (.tuple #[.int .i64 (s:Int),.int .i64 (x:Int)])∧GetIs ls (fun i=>bitIn high zs (p+i)) (8*zs.length - p) s n x∧ROk w' rp high gr zs (p+n)∧Only rp w w':=by
 obtain ⟨wg,g,cap,N,base,A,B,S,H,ix,ky,h⟩:=h
 have c0:=h.c0
 have c2:=h.c2
 have hN2:=h.tr.two
 have k1:=h.nodes.cA 1 (by omega)
 have k2:=h.nodes.cB 1 (by omega)
 have k3:=h.nodes.cS 1 (by omega)
 have k4:=h.nodes.cH 1 (by omega)
 simp only [Nat.one_mul] at k1 k2 k3 k4
 have h1N:(1:Int)<(N:Int):=by omega
 have HC:=qz h
 have HRD:=qz hrd
 clear h hrd
 go_enter Tryz.func131,Tryz.ntmps131
 go_wp2_with (go_at_call 140;refine (cgood_yes _ _ (by assumption)).mono ?_;rintro e w' ⟨rfl,rfl⟩)
 have HST:=qz (getAt_start (f:=fun i=>bitIn high zs (p+i)) (uh HC) (uh HRD) ho hhi)
 obtain ⟨ab,hab⟩:∃ ab,ab=w'.heap.size:=⟨_,rfl⟩
 rw [← hab] at HST ⊢
 generalize w'.alloc (.cells #[.int .i32 (A 1:Int),.int .i32 (B 1:Int),.int .i32 (S 1:Int),.bool (H 1)] 191)=w1 at HST ⊢
 clear hab c0 c2 k1 k2 k3 k4 h1N HC HRD
 obtain ⟨f,hf⟩:∃ f:Nat→Bool,f=fun i=>bitIn high zs (p+i):=⟨_,rfl⟩
 rw [← hf] at HST
 have HFF:=qz hf
 clear hf
 go_loopg [] (8*zs.length - p) (fun gk ws=>∃ (j a:Nat),gk=8*zs.length - p - j∧p+j≤8*zs.length∧GetAt ls w' ws cp lo hi wg g cap N base A B S H ix ky rp gr ab high zs f (p+j) j a)
 case atStart=>exact ⟨0,1,by omega,(uh HST).rd.le,uh HST⟩
 case round =>
  obtain ⟨j,a,rfl,hj,hst⟩:=hrel
  clear HST
  by_cases hwd:∃ i,Wrd ls ls.length i (kf f j)
  ·obtain ⟨i,hi⟩:=hwd
   obtain ⟨w1,w2,w3⟩:=hst.word hi
   obtain ⟨v0,v1,v2,v3⟩:=hst.v
   rw [w1] at v3
   rw [w2] at v2
   have hi16:i<65536:=by have:=hi.1;have:=hst.code.small;omega
   have HFIN:Hid (GetIs ls f (8*zs.length - p) i j 0∧ROk wr rp high gr zs (p+j)∧Only rp w' wr):=qz ⟨⟨by omega,fun x h1 h2=>hst.pre x h1 h2,.inl ⟨rfl,w3,hi⟩⟩,hst.rd,hst.only⟩
   clear hst hi w1 w2 w3
   go_wp2_with fail
   go_ret2
   obtain ⟨r1,r2,r3⟩:=uh HFIN
   rw [uh HFF] at r1
   exact ⟨i,j,0,rfl,r1,r2,r3⟩
  ·have hnw:∀ i,¬ Wrd ls ls.length i (kf f j):=fun i hi=>hwd ⟨i,hi⟩
   obtain ⟨w1,w2⟩:=hst.noword hnw
   obtain ⟨v0,v1,v2,v3⟩:=hst.v
   rw [w1] at v3
   rw [w2] at v2
   clear hwd w1 w2
   by_cases hlt:p+j<8*zs.length
   ·have hkk:=hst.kid
    have hfj:f j=bitIn high zs (p+j):=by rw [uh HFF]
    have c2:=hst.code.c2
    have f0:=hst.fz 0
    have f1:=hst.fz 1
    have f2:=hst.fz 2
    have f3:=hst.fz 3
    cases hfb:f j with
    | false =>
     have hkid:=hkk.1 hfb
     obtain ⟨a',ha'⟩:∃ a',a'=ix (kf f (j+1)):=⟨_,rfl⟩
     by_cases hbg:Beg ls ls.length (kf f (j+1))
     ·obtain ⟨q1,q2⟩:=hst.full hbg a' ha'
      have k1:=hst.code.nodes.cA a' q1
      have k2:=hst.code.nodes.cB a' q1
      have k3:=hst.code.nodes.cS a' q1
      have k4:=hst.code.nodes.cH a' q1
      have haN:(a':Int)<(N:Int):=by omega
      have HST:=qz hst
      have HNX:Hid (∀ ws,GetAt ls w' ws cp lo hi wg g cap N base A B S H ix ky rp gr ab high zs f (p+j+1) j a→GetAt ls w' (lay4 ws ab (.int .i32 (A a':Int)) (.int .i32 (B a':Int)) (.int .i32 (S a':Int)) (.bool (H a'))) cp lo hi wg g cap N base A B S H ix ky rp gr ab high zs f (p+j+1) (j+1) a'):=qz (fun ws h=>h.next a' ha' hbg (fun _=>⟨hst.beg,hnw⟩))
      have HNZ:=qz q2
      have HKID:=qz hkid
      have HAA:=qz ha'
      clear hst q2 ha' hnw hkk hkid hbg
      go_upto_region 8 with (go_at_call 48;go_must (refine (get_ok rp gr (p+j) high zs 1 _ (uh HST).rd hn (by omega) (by omega) (by simp;omega)).mono ?_;rintro e w2 ⟨rfl,q,rfl⟩;rw [num_one,show bitIn high zs (p+j)=false by rw [← hfj];exact hfb,show ((false:Bool).toNat:Int)=0 from rfl];have HST2:=qz ((uh HST).read q (p+j+1) (by omega));rw [show ((p+j+(1:Int).toNat:Nat):Int)=((p+j+1:Nat):Int) from rfl]))
      rw [show (p:Int)+(j:Int)+1=((p+j+1:Nat):Int) by omega]
      clear v0 v1 v2 v3 c2 f0 f1 f2 f3 k1 k2 k3 k4
      generalize (wr.drewN q).setCell ⟨rp,3,none⟩ (.int .i64 ((p+j+1:Nat):Int))=wq at HST2 ⊢
      obtain ⟨v0,v1,v2,v3⟩:=(uh HST2).v
      have c2:=(uh HST2).code.c2
      have k1:=(uh HST2).code.nodes.cA a' q1
      have k2:=(uh HST2).code.nodes.cB a' q1
      have k3:=(uh HST2).code.nodes.cS a' q1
      have k4:=(uh HST2).code.nodes.cH a' q1
      rw [show A a=a' from (by rw [uh HKID,← uh HAA])] at v0
      have HST3:=qz (uh HST2).drew
      refine wp_tail 10 (by kernel_rfl) (by kernel_rfl) ?_
      simp only [List.take_succ_cons,List.take_zero,List.drop_succ_cons,List.drop_zero]
      repeat still_step
      try refine wpStill_nil ?_
      clear v0 v1 v2 v3 c2 k1 k2 k3 k4
      generalize wq.drew=w5 at HST3 ⊢
      obtain ⟨v0,v1,v2,v3⟩:=(uh HST3).v
      have f0:=(uh HST3).fz 0
      have f1:=(uh HST3).fz 1
      have f2:=(uh HST3).fz 2
      have f3:=(uh HST3).fz 3
      by_cases hAB:A a'=0∧B a'=0
      ·have hH:H a'=true:=by have:=uh HNZ;rcases this with h | h | h;exact absurd hAB.1 h;exact absurd hAB.2 h;exact h
       rw [hAB.1,hAB.2,hH] at HNX ⊢
       have heq:=fun w=>eq_pair w 0 0
       simp only [decide_true,Bool.and_true] at heq
       by_cases hS:S a'=0
       ·rw [hS] at HNX ⊢
        go_wp2_with fail
        go_roundg (8*zs.length - p - (j+1))
        case measure=>omega
        case rel=>exact ⟨j+1,a',rfl,by omega,by have:=uh HNX _ (uh HST3);exact this⟩
       ·have hS':¬ ((S a':Nat):Int)=0:=by omega
        go_wp2_with fail
        go_roundg (8*zs.length - p - (j+1))
        case measure=>omega
        case rel=>exact ⟨j+1,a',rfl,by omega,by have:=uh HNX _ (uh HST3);exact this⟩
      ·have heq:=fun w=>eq_pair_no w (A a') (B a') hAB
       go_wp2_with fail
       go_roundg (8*zs.length - p - (j+1))
       case measure=>omega
       case rel=>exact ⟨j+1,a',rfl,by omega,by have:=uh HNX _ (uh HST3);exact this⟩
     ·obtain ⟨z0,z1,z2,z3,z4⟩:=hst.zero hbg
      have hz:A a=0:=by rw [hkid,z0]
      have q1:0<N:=by omega
      have k1:=hst.code.nodes.cA 0 q1
      have k2:=hst.code.nodes.cB 0 q1
      have k3:=hst.code.nodes.cS 0 q1
      have k4:=hst.code.nodes.cH 0 q1
      have haN:(0:Int)<(N:Int):=by omega
      have HST:=qz hst
      have HFIN:Hid (GetIs ls f (8*zs.length - p) 0 (j+1) 11):=qz ⟨by omega,fun x h1 h2=>by
       by_cases e:x=j
       ·subst e;exact ⟨hst.beg,hnw⟩
       ·exact hst.pre x h1 (by omega),.inr (.inl ⟨rfl,rfl,by omega,hbg⟩)⟩
      have HZ:=qz hz
      have HZZ:=qz (show A 0=0∧B 0=0∧S 0=0∧H 0=false from ⟨z1,z2,z3,z4⟩)
      clear hst ha' hnw hkk hkid hbg z0 z1 z2 z3 z4 hz
      go_upto_region 8 with (go_at_call 48;go_must (refine (get_ok rp gr (p+j) high zs 1 _ (uh HST).rd hn (by omega) (by omega) (by simp;omega)).mono ?_;rintro e w2 ⟨rfl,q,rfl⟩;rw [num_one,show bitIn high zs (p+j)=false by rw [← hfj];exact hfb,show ((false:Bool).toNat:Int)=0 from rfl];have HST2:=qz ((uh HST).read q (p+j+1) (by omega));rw [show ((p+j+(1:Int).toNat:Nat):Int)=((p+j+1:Nat):Int) from rfl]))
      rw [show (p:Int)+(j:Int)+1=((p+j+1:Nat):Int) by omega]
      clear v0 v1 v2 v3 c2 f0 f1 f2 f3 k1 k2 k3 k4
      generalize (wr.drewN q).setCell ⟨rp,3,none⟩ (.int .i64 ((p+j+1:Nat):Int))=wq at HST2 ⊢
      obtain ⟨v0,v1,v2,v3⟩:=(uh HST2).v
      have c2:=(uh HST2).code.c2
      have k1:=(uh HST2).code.nodes.cA 0 q1
      have k2:=(uh HST2).code.nodes.cB 0 q1
      have k3:=(uh HST2).code.nodes.cS 0 q1
      have k4:=(uh HST2).code.nodes.cH 0 q1
      rw [uh HZ] at v0
      obtain ⟨z1,z2,z3,z4⟩:=uh HZZ
      rw [z1,Nat.zero_mul] at k1
      rw [z2,Nat.zero_mul] at k2
      rw [z3,Nat.zero_mul] at k3
      rw [z4,Nat.zero_mul] at k4
      clear z1 z2 z3 z4
      have HST3:=qz (uh HST2).drew
      refine wp_tail 10 (by kernel_rfl) (by kernel_rfl) ?_
      simp only [List.take_succ_cons,List.take_zero,List.drop_succ_cons,List.drop_zero]
      repeat still_step
      try refine wpStill_nil ?_
      clear v0 v1 v2 v3 c2 k1 k2 k3 k4
      generalize wq.drew=w5 at HST3 ⊢
      obtain ⟨v0,v1,v2,v3⟩:=(uh HST3).v
      have f0:=(uh HST3).fz 0
      have f1:=(uh HST3).fz 1
      have f2:=(uh HST3).fz 2
      have f3:=(uh HST3).fz 3
      have heq:=fun w=>eq_pair w 0 0
      simp only [decide_true,Bool.and_true] at heq
      go_wp2_with fail
      go_ret2
      have r1:=uh HFIN
      rw [uh HFF] at r1
      obtain ⟨r2,r3⟩:=(uh HST3).outs (.int .i32 0) (.int .i32 0) (.int .i32 0) (.bool false)
      exact ⟨0,j+1,11,rfl,r1,r2,r3⟩
    | true =>
     have hkid:=hkk.2 hfb
     obtain ⟨a',ha'⟩:∃ a',a'=ix (kf f (j+1)):=⟨_,rfl⟩
     by_cases hbg:Beg ls ls.length (kf f (j+1))
     ·obtain ⟨q1,q2⟩:=hst.full hbg a' ha'
      have k1:=hst.code.nodes.cA a' q1
      have k2:=hst.code.nodes.cB a' q1
      have k3:=hst.code.nodes.cS a' q1
      have k4:=hst.code.nodes.cH a' q1
      have haN:(a':Int)<(N:Int):=by omega
      have HST:=qz hst
      have HNX:Hid (∀ ws,GetAt ls w' ws cp lo hi wg g cap N base A B S H ix ky rp gr ab high zs f (p+j+1) j a→GetAt ls w' (lay4 ws ab (.int .i32 (A a':Int)) (.int .i32 (B a':Int)) (.int .i32 (S a':Int)) (.bool (H a'))) cp lo hi wg g cap N base A B S H ix ky rp gr ab high zs f (p+j+1) (j+1) a'):=qz (fun ws h=>h.next a' ha' hbg (fun _=>⟨hst.beg,hnw⟩))
      have HNZ:=qz q2
      have HKID:=qz hkid
      have HAA:=qz ha'
      clear hst q2 ha' hnw hkk hkid hbg
      go_upto_region 8 with (go_at_call 48;go_must (refine (get_ok rp gr (p+j) high zs 1 _ (uh HST).rd hn (by omega) (by omega) (by simp;omega)).mono ?_;rintro e w2 ⟨rfl,q,rfl⟩;rw [num_one,show bitIn high zs (p+j)=true by rw [← hfj];exact hfb,show ((true:Bool).toNat:Int)=1 from rfl];have HST2:=qz ((uh HST).read q (p+j+1) (by omega));rw [show ((p+j+(1:Int).toNat:Nat):Int)=((p+j+1:Nat):Int) from rfl]))
      rw [show (p:Int)+(j:Int)+1=((p+j+1:Nat):Int) by omega]
      clear v0 v1 v2 v3 c2 f0 f1 f2 f3 k1 k2 k3 k4
      generalize (wr.drewN q).setCell ⟨rp,3,none⟩ (.int .i64 ((p+j+1:Nat):Int))=wq at HST2 ⊢
      obtain ⟨v0,v1,v2,v3⟩:=(uh HST2).v
      have c2:=(uh HST2).code.c2
      have k1:=(uh HST2).code.nodes.cA a' q1
      have k2:=(uh HST2).code.nodes.cB a' q1
      have k3:=(uh HST2).code.nodes.cS a' q1
      have k4:=(uh HST2).code.nodes.cH a' q1
      rw [show B a=a' from (by rw [uh HKID,← uh HAA])] at v1
      have HST3:=qz (uh HST2).drew
      refine wp_tail 10 (by kernel_rfl) (by kernel_rfl) ?_
      simp only [List.take_succ_cons,List.take_zero,List.drop_succ_cons,List.drop_zero]
      repeat still_step
      try refine wpStill_nil ?_
      clear v0 v1 v2 v3 c2 k1 k2 k3 k4
      generalize wq.drew=w5 at HST3 ⊢
      obtain ⟨v0,v1,v2,v3⟩:=(uh HST3).v
      have f0:=(uh HST3).fz 0
      have f1:=(uh HST3).fz 1
      have f2:=(uh HST3).fz 2
      have f3:=(uh HST3).fz 3
      by_cases hAB:A a'=0∧B a'=0
      ·have hH:H a'=true:=by have:=uh HNZ;rcases this with h | h | h;exact absurd hAB.1 h;exact absurd hAB.2 h;exact h
       rw [hAB.1,hAB.2,hH] at HNX ⊢
       have heq:=fun w=>eq_pair w 0 0
       simp only [decide_true,Bool.and_true] at heq
       by_cases hS:S a'=0
       ·rw [hS] at HNX ⊢
        go_wp2_with fail
        go_roundg (8*zs.length - p - (j+1))
        case measure=>omega
        case rel=>exact ⟨j+1,a',rfl,by omega,by have:=uh HNX _ (uh HST3);exact this⟩
       ·have hS':¬ ((S a':Nat):Int)=0:=by omega
        go_wp2_with fail
        go_roundg (8*zs.length - p - (j+1))
        case measure=>omega
        case rel=>exact ⟨j+1,a',rfl,by omega,by have:=uh HNX _ (uh HST3);exact this⟩
      ·have heq:=fun w=>eq_pair_no w (A a') (B a') hAB
       go_wp2_with fail
       go_roundg (8*zs.length - p - (j+1))
       case measure=>omega
       case rel=>exact ⟨j+1,a',rfl,by omega,by have:=uh HNX _ (uh HST3);exact this⟩
     ·obtain ⟨z0,z1,z2,z3,z4⟩:=hst.zero hbg
      have hz:B a=0:=by rw [hkid,z0]
      have q1:0<N:=by omega
      have k1:=hst.code.nodes.cA 0 q1
      have k2:=hst.code.nodes.cB 0 q1
      have k3:=hst.code.nodes.cS 0 q1
      have k4:=hst.code.nodes.cH 0 q1
      have haN:(0:Int)<(N:Int):=by omega
      have HST:=qz hst
      have HFIN:Hid (GetIs ls f (8*zs.length - p) 0 (j+1) 11):=qz ⟨by omega,fun x h1 h2=>by
       by_cases e:x=j
       ·subst e;exact ⟨hst.beg,hnw⟩
       ·exact hst.pre x h1 (by omega),.inr (.inl ⟨rfl,rfl,by omega,hbg⟩)⟩
      have HZ:=qz hz
      have HZZ:=qz (show A 0=0∧B 0=0∧S 0=0∧H 0=false from ⟨z1,z2,z3,z4⟩)
      clear hst ha' hnw hkk hkid hbg z0 z1 z2 z3 z4 hz
      go_upto_region 8 with (go_at_call 48;go_must (refine (get_ok rp gr (p+j) high zs 1 _ (uh HST).rd hn (by omega) (by omega) (by simp;omega)).mono ?_;rintro e w2 ⟨rfl,q,rfl⟩;rw [num_one,show bitIn high zs (p+j)=true by rw [← hfj];exact hfb,show ((true:Bool).toNat:Int)=1 from rfl];have HST2:=qz ((uh HST).read q (p+j+1) (by omega));rw [show ((p+j+(1:Int).toNat:Nat):Int)=((p+j+1:Nat):Int) from rfl]))
      rw [show (p:Int)+(j:Int)+1=((p+j+1:Nat):Int) by omega]
      clear v0 v1 v2 v3 c2 f0 f1 f2 f3 k1 k2 k3 k4
      generalize (wr.drewN q).setCell ⟨rp,3,none⟩ (.int .i64 ((p+j+1:Nat):Int))=wq at HST2 ⊢
      obtain ⟨v0,v1,v2,v3⟩:=(uh HST2).v
      have c2:=(uh HST2).code.c2
      have k1:=(uh HST2).code.nodes.cA 0 q1
      have k2:=(uh HST2).code.nodes.cB 0 q1
      have k3:=(uh HST2).code.nodes.cS 0 q1
      have k4:=(uh HST2).code.nodes.cH 0 q1
      rw [uh HZ] at v1
      obtain ⟨z1,z2,z3,z4⟩:=uh HZZ
      rw [z1,Nat.zero_mul] at k1
      rw [z2,Nat.zero_mul] at k2
      rw [z3,Nat.zero_mul] at k3
      rw [z4,Nat.zero_mul] at k4
      clear z1 z2 z3 z4
      have HST3:=qz (uh HST2).drew
      refine wp_tail 10 (by kernel_rfl) (by kernel_rfl) ?_
      simp only [List.take_succ_cons,List.take_zero,List.drop_succ_cons,List.drop_zero]
      repeat still_step
      try refine wpStill_nil ?_
      clear v0 v1 v2 v3 c2 k1 k2 k3 k4
      generalize wq.drew=w5 at HST3 ⊢
      obtain ⟨v0,v1,v2,v3⟩:=(uh HST3).v
      have f0:=(uh HST3).fz 0
      have f1:=(uh HST3).fz 1
      have f2:=(uh HST3).fz 2
      have f3:=(uh HST3).fz 3
      have heq:=fun w=>eq_pair w 0 0
      simp only [decide_true,Bool.and_true] at heq
      go_wp2_with fail
      go_ret2
      have r1:=uh HFIN
      rw [uh HFF] at r1
      obtain ⟨r2,r3⟩:=(uh HST3).outs (.int .i32 0) (.int .i32 0) (.int .i32 0) (.bool false)
      exact ⟨0,j+1,11,rfl,r1,r2,r3⟩
   ·have he:p+j=8*zs.length:=by omega
    have HFIN:Hid (GetIs ls f (8*zs.length - p) 0 j 10∧ROk wr rp high gr zs (p+j)∧Only rp w' wr):=qz ⟨⟨by omega,fun x h1 h2=>hst.pre x h1 h2,.inr (.inr ⟨rfl,rfl,by omega,fun h1=>⟨hst.beg,hnw⟩⟩)⟩,hst.rd,hst.only⟩
    have HRD:=qz hst.rd
    clear hst hnw
    go_wp2_with (go_at_call 48;go_must (refine (get_end rp gr (p+j) high zs 1 _ (uh HRD) hn (by omega) (by omega) (by omega)).mono ?_;rintro e w2 ⟨rfl,q,rfl⟩))
    go_ret2
    obtain ⟨r1,r2,r3⟩:=uh HFIN
    rw [uh HFF] at r1
    exact ⟨0,j,10,rfl,r1,r2.drewN q,r3.trans (Only.drewN _ _ _)⟩
end
section
open Go.RowKit Infl
def lenAns (s:Int):Value:=if s<257∨285<s then .tuple #[.int .i64 0,.int .i64 0,.int .i64 2] else .tuple #[.int .i64 ((lenOf s.toNat).1:Int),.int .i64 ((lenOf s.toNat).2:Int),.int .i64 0]
def distAns (s:Int):Value:=if s<0∨29<s then .tuple #[.int .i64 0,.int .i64 0,.int .i64 2] else .tuple #[.int .i64 ((distOf s.toNat).1:Int),.int .i64 ((distOf s.toNat).2:Int),.int .i64 0]
theorem len_ok (s:Int) (w:World):Calls Tryz.prog 138 #[.int .i64 s] w fun e w'=>e=.returned (lenAns s)∧w'=w:=by
 unfold lenAns
 by_cases h1:s<257∨285<s
 ·rw [if_pos h1]
  rcases h1 with h1 | h1
  ·go_enter Tryz.func138,Tryz.ntmps138
   go_wp2_with fail
   go_ret3
   exact ⟨rfl,rfl⟩
  ·have g1:¬ s<257:=by omega
   go_enter Tryz.func138,Tryz.ntmps138
   go_wp2_with fail
   go_ret3
   exact ⟨rfl,rfl⟩
 ·rw [if_neg h1]
  have hc:s=257∨s=258∨s=259∨s=260∨s=261∨s=262∨s=263∨s=264∨s=265∨s=266∨s=267∨s=268∨s=269∨s=270∨s=271∨s=272∨s=273∨s=274∨s=275∨s=276∨s=277∨s=278∨s=279∨s=280∨s=281∨s=282∨s=283∨s=284∨s=285:=by omega
  clear h1
  rcases hc with rfl | rfl | rfl | rfl | rfl | rfl | rfl | rfl | rfl | rfl | rfl | rfl | rfl | rfl | rfl | rfl | rfl | rfl | rfl | rfl | rfl | rfl | rfl | rfl | rfl | rfl | rfl | rfl | rfl
  all_goals
   go_enter Tryz.func138,Tryz.ntmps138
   go_wp2_with fail
   go_ret3
   exact ⟨rfl,rfl⟩
theorem dist_ok (s:Int) (w:World):Calls Tryz.prog 139 #[.int .i64 s] w fun e w'=>e=.returned (distAns s)∧w'=w:=by
 unfold distAns
 by_cases h1:s<0∨29<s
 ·rw [if_pos h1]
  rcases h1 with h1 | h1
  ·go_enter Tryz.func139,Tryz.ntmps139
   go_wp2_with fail
   go_ret3
   exact ⟨rfl,rfl⟩
  ·have g1:¬ s<0:=by omega
   go_enter Tryz.func139,Tryz.ntmps139
   go_wp2_with fail
   go_ret3
   exact ⟨rfl,rfl⟩
 ·rw [if_neg h1]
  have hc:s=0∨s=1∨s=2∨s=3∨s=4∨s=5∨s=6∨s=7∨s=8∨s=9∨s=10∨s=11∨s=12∨s=13∨s=14∨s=15∨s=16∨s=17∨s=18∨s=19∨s=20∨s=21∨s=22∨s=23∨s=24∨s=25∨s=26∨s=27∨s=28∨s=29:=by omega
  clear h1
  rcases hc with rfl | rfl | rfl | rfl | rfl | rfl | rfl | rfl | rfl | rfl | rfl | rfl | rfl | rfl | rfl | rfl | rfl | rfl | rfl | rfl | rfl | rfl | rfl | rfl | rfl | rfl | rfl | rfl | rfl | rfl
  all_goals
   go_enter Tryz.func139,Tryz.ntmps139
   go_wp2_with fail
   go_ret3
   exact ⟨rfl,rfl⟩
end
section
open Go.RowKit Mth Infl
structure RAt (w:World) (B rb rp g:Nat) (zs:List Nat) (p:Nat) (v:Value) (out:List Nat) (most:Nat) (sv dv:Value):Prop where
 blk:w.heap[rb]?=some (.cells #[.pointer (some ⟨rp,0,none⟩),.int .i64 (most:Int),v,sv,dv] 98 (0,0))
 rd:ROk w rp false g zs p
 row:w.ownsRow B 5 1 v out.length (out.map bv)
 small:∀ z∈out,z<256
 lb:rb<B
 lp:rp<B
 lg:g<B
 ne:rp≠rb
 ng:g≠rb
 ol:out.length≤most
 hB:B≤w.heap.size
structure Chg (rb rp:Nat) (v0:Value) (w0:World) (v:Value) (w:World):Prop where
 os:w.os=w0.os
 tape:w.tape=w0.tape
 output:w.output=w0.output
 size:w0.heap.size≤w.heap.size
 keep:∀ k,k<w0.heap.size→k≠rb→k≠rp→v0.ownBlock≠some k→w.heap[k]?=w0.heap[k]?
 lies:v.ownBlock=v0.ownBlock∨∃ g,v.ownBlock=some g∧w0.heap.size≤g
section
variable {rb rp:Nat} {v0 v v1 v2:Value} {w0 w w1 w2 w':World} {B g p q most:Nat} {zs out:List Nat} {sv dv:Value}
theorem Chg.refl (rb rp:Nat) (v:Value) (w:World):Chg rb rp v w v w:=⟨rfl,rfl,rfl,Nat.le_refl _,fun _ _ _ _ _=>rfl,.inl rfl⟩
theorem Chg.trans (h:Chg rb rp v0 w0 v1 w1) (k:Chg rb rp v1 w1 v2 w2):Chg rb rp v0 w0 v2 w2 where
 os:=k.os.trans h.os
 tape:=k.tape.trans h.tape
 output:=k.output.trans h.output
 size:=Nat.le_trans h.size k.size
 keep:=fun b hb hne hne2 hv=>by
  have hs:=h.size
  rw [k.keep b (by omega) hne hne2 (by
   rcases h.lies with e | ⟨g,e,hg⟩
   ·rw [e];exact hv
   ·rw [e];intro c;injection c with c;omega),h.keep b hb hne hne2 hv]
 lies:=by
  have hs:=h.size
  rcases k.lies with e | ⟨g,e,hg⟩
  ·rw [e];exact h.lies
  ·exact .inr ⟨g,e,by omega⟩
theorem Chg.drewN (h:Chg rb rp v0 w0 v w) (n:Nat):Chg rb rp v0 w0 v (w.drewN n):=⟨h.os,h.tape,h.output,h.size,h.keep,h.lies⟩
theorem Chg.only (rb:Nat) (v:Value) (h:Only rp w w'):Chg rb rp v w v w':=⟨h.os,h.tape,h.output,h.size,fun k h1 _ h3 _=>h.keep k h1 h3,.inl rfl⟩
theorem Chg.of_below (rb rp:Nat) (v:Value) (h:Below w.heap.size w w'):Chg rb rp v w v w':=⟨h.os,h.tape,h.output,h.size,fun k h1 _ _ _=>h.block k h1,.inl rfl⟩
theorem Chg.below {C:Nat} (h:Chg rb rp v0 w0 v w) (h1:C≤rb) (h2:C≤rp) (h3:C≤w0.heap.size) (h4:∀ k,v0.ownBlock=some k→C≤k):Below C w0 w :=
 ⟨h.os,h.tape,h.output,h.size,fun k hk=>h.keep k (by omega) (by omega) (by omega) (fun e=>by have:=h4 k e;omega)⟩
theorem RAt.c0 (h:RAt w B rb rp g zs p v out most sv dv):w.cell? ⟨rb,0,none⟩=some (.pointer (some ⟨rp,0,none⟩)):=by simp [World.cell?,h.blk]
theorem RAt.c1 (h:RAt w B rb rp g zs p v out most sv dv):w.cell? ⟨rb,1,none⟩=some (.int .i64 (most:Int)):=by simp [World.cell?,h.blk]
theorem RAt.c2 (h:RAt w B rb rp g zs p v out most sv dv):w.cell? ⟨rb,2,none⟩=some v:=by simp [World.cell?,h.blk]
theorem RAt.c3 (h:RAt w B rb rp g zs p v out most sv dv):w.cell? ⟨rb,3,none⟩=some sv:=by simp [World.cell?,h.blk]
theorem RAt.c4 (h:RAt w B rb rp g zs p v out most sv dv):w.cell? ⟨rb,4,none⟩=some dv:=by simp [World.cell?,h.blk]
theorem RAt.fz (h:RAt w B rb rp g zs p v out most sv dv) (o:Nat):w.frozen? ⟨rb,o,none⟩=false:=by simp [World.frozen?,h.blk]
theorem RAt.lt (h:RAt w B rb rp g zs p v out most sv dv):rb<w.heap.size:=heap_lt h.blk
theorem RAt.own (h:RAt w B rb rp g zs p v out most sv dv) {k:Nat} (e:v.ownBlock=some k):B≤k∧k<w.heap.size:=h.row.lt k e
theorem RAt.slice (h:RAt w B rb rp g zs p v out most sv dv):∃ a c,v=.slice a out.length c:=by
 rcases h.row.2 with ⟨e,hn⟩ | ⟨g,c,cur,e,_⟩
 ·exact ⟨none,0,by rw [e,hn]⟩
 ·exact ⟨_,c,e⟩
theorem RAt.drewN (h:RAt w B rb rp g zs p v out most sv dv) (n:Nat):RAt (w.drewN n) B rb rp g zs p v out most sv dv :=
 ⟨h.blk,h.rd.drewN n,own_keep h.row (fun _ _=>rfl),h.small,h.lb,h.lp,h.lg,h.ne,h.ng,h.ol,h.hB⟩
theorem RAt.only (h:RAt w B rb rp g zs p v out most sv dv) (ho:Only rp w w') (hr:ROk w' rp false g zs q):RAt w' B rb rp g zs q v out most sv dv :=
 ⟨by rw [ho.keep rb h.lt (by have:=h.ne;omega)];exact h.blk,hr,own_keep h.row (fun k e=>ho.keep k (h.own e).2 (by have:=(h.own e).1;have:=h.lp;omega)),h.small,h.lb,h.lp,h.lg,h.ne,h.ng,h.ol,by have:=ho.size;have:=h.hB;omega⟩
theorem RAt.below (h:RAt w B rb rp g zs p v out most sv dv) (hb:Below w.heap.size w w'):RAt w' B rb rp g zs p v out most sv dv :=
 h.only (Only.of_below hb) (h.rd.keep (hb.block _ h.rd.lt) (hb.block _ (heap_lt h.rd.row)))
theorem RAt.read (h:RAt w B rb rp g zs p v out most sv dv) (k q:Nat) (hq:q≤8*zs.length):RAt ((w.drewN k).setCell ⟨rp,3,none⟩ (.int .i64 (q:Int))) B rb rp g zs q v out most sv dv :=
 h.only ((Only.drewN rp w k).set 3 _) ((h.rd.drewN k).set q hq)
theorem RAt.codes (h:RAt w B rb rp g zs p v out most sv dv) (sv' dv':Value):RAt ((w.setCell ⟨rb,3,none⟩ sv').setCell ⟨rb,4,none⟩ dv') B rb rp g zs p v out most sv' dv':=by
 have e:∀ k,k≠rb→((w.setCell ⟨rb,3,none⟩ sv').setCell ⟨rb,4,none⟩ dv').heap[k]?=w.heap[k]?:=fun k hk=>by
  rw [heap_setCell_other _ _ _ _ (by exact hk),heap_setCell_other _ _ _ _ (by exact hk)]
 refine ⟨?_,h.rd.keep (e rp h.ne) (e g h.ng),own_keep h.row (fun k hk=>e k (by have:=(h.own hk).1;have:=h.lb;omega)),h.small,h.lb,h.lp,h.lg,h.ne,h.ng,h.ol,by simpa using h.hB⟩
 rw [heap_setCell_same _ rb 4 _ _ _ (heap_setCell_same _ rb 3 _ _ _ h.blk)]
 simp
theorem Chg.codes (h:Chg rb rp v0 w0 v w) (sv' dv':Value):Chg rb rp v0 w0 v ((w.setCell ⟨rb,3,none⟩ sv').setCell ⟨rb,4,none⟩ dv') :=
 ⟨h.os,h.tape,h.output,by simpa using h.size,fun k h1 h2 h3 h4=>by rw [heap_setCell_other _ _ _ _ (by exact h2),heap_setCell_other _ _ _ _ (by exact h2)];exact h.keep k h1 h2 h3 h4,h.lies⟩
theorem RAt.grow (h:RAt w B rb rp g zs p v out most sv dv) (hb:Below w.heap.size w w1) {g' cap:Nat} {ys:List Nat} (hy:∀ z∈ys,z<256) (hl:out.length+ys.length≤most)
  (hown:w2.ownsRow B 5 1 (.slice (some ⟨g',0,none⟩) (out.length+ys.length) cap) (out.length+ys.length) (out.map bv++ys.map bv)) (hg:w1.grownBy w2 v.ownBlock) (hat:v.ownBlock=some g'∨w.heap.size≤g') :
  RAt (w2.setCell ⟨rb,2,none⟩ (.slice (some ⟨g',0,none⟩) (out.length+ys.length) cap)) B rb rp g zs p (.slice (some ⟨g',0,none⟩) (out.length+ys.length) cap) (out++ys) most sv dv ∧
  Chg rb rp v w (.slice (some ⟨g',0,none⟩) (out.length+ys.length) cap) (w2.setCell ⟨rb,2,none⟩ (.slice (some ⟨g',0,none⟩) (out.length+ys.length) cap)):=by
 have hlt:=h.lt
 have hsz:=hb.size
 have hg':B≤g':=by
  rcases hat with e | e
  ·exact (h.own e).1
  ·have:=h.hB;omega
 have hkeep:∀ k,k<w.heap.size→v.ownBlock≠some k→w2.heap[k]?=w.heap[k]?:=fun k hk hne=>by
  rw [hg.block k (by omega) (fun e=>hne e.symm),hb.block k hk]
 have hvb:∀ k,k<B→v.ownBlock≠some k:=fun k hk e=>by have:=(h.own e).1;omega
 have hbk:=(hkeep rb hlt (hvb rb h.lb)).trans h.blk
 refine ⟨⟨?_,?_,?_,?_,h.lb,h.lp,h.lg,h.ne,h.ng,by rw [List.length_append];exact hl,?_⟩,?_⟩
 ·rw [heap_setCell_same w2 rb 2 _ _ _ hbk];simp
 ·refine h.rd.keep ?_ ?_
  ·rw [heap_setCell_other _ _ _ _ (by exact h.ne)];exact hkeep rp h.rd.lt (hvb rp h.lp)
  ·rw [heap_setCell_other _ _ _ _ (by exact h.ng)];exact hkeep g (heap_lt h.rd.row) (hvb g h.lg)
 ·rw [List.length_append,List.map_append]
  exact own_keep hown (fun k e=>heap_setCell_other _ _ _ _ (by simp only [Value.ownBlock,Option.some.injEq] at e;have:=h.lb;show k≠rb;omega))
 ·intro z hz
  rw [List.mem_append] at hz
  rcases hz with hz | hz
  ·exact h.small z hz
  ·exact hy z hz
 ·have:=hg.size;have:=h.hB;simp;omega
 ·have h1:=hg.size
  refine ⟨hg.os.trans hb.os,hg.tape.trans hb.tape,hg.output.trans hb.output,by simp;omega,fun k hk hne _ hv=>?_,?_⟩
  ·rw [heap_setCell_other _ _ _ _ (by exact hne)]
   exact hkeep k hk hv
  ·rcases hat with e | e
   ·exact .inl (by rw [e];rfl)
   ·exact .inr ⟨g',rfl,e⟩
structure COk (ls:List Nat) (w:World) (B cp:Nat) (v:Value):Prop where
 ex:∃ lo hi,Code ls w cp lo hi∧B≤lo∧hi≤w.heap.size∧∀ k,v.ownBlock=some k→k<lo∨hi≤k
theorem COk.chg {ls:List Nat} {cp:Nat} (h:COk ls w0 B cp v0) (c:Chg rb rp v0 w0 v w) (lb:rb<B) (lp:rp<B):COk ls w B cp v:=by
 obtain ⟨lo,hi,⟨wg,g,cap,N,base,A,B',S,H,ix,ky,hc⟩,h1,h2,h3⟩:=h.ex
 refine ⟨lo,hi,⟨wg,g,cap,N,base,A,B',S,H,ix,ky,hc.keep (fun k k1 k2=>?_)⟩,h1,by have:=c.size;omega,fun k e=>?_⟩
 ·exact c.keep k (by omega) (by omega) (by omega) (fun e=>by have:=h3 k e;omega)
 ·rcases c.lies with e' | ⟨g',e',hg'⟩
  ·exact h3 k (by rw [← e'];exact e)
  ·rw [e'] at e;injection e with e;omega
theorem numAt_num (f:Nat→Bool) (p n:Nat):numAt false n (fun i=>f (p+i))=num f p n:=by
 have key:∀ i,i≤n→acc false n (fun i=>f (p+i)) i=num f p i:=by
  intro i
  induction i with
  | zero=>intro _;rfl
  | succ i ih =>
   intro hi
   rw [acc,ih (by omega),num]
   have hlt:=num_lt f p i
   rw [show rk false n i=i from by simp [rk],Nat.or_comm,← Nat.shiftLeft_add_eq_or_of_lt hlt,Nat.shiftLeft_eq]
   omega
 exact key n (Nat.le_refl _)
theorem bitIn_is (zs:List Nat) (i:Nat):bitIn false zs i=(Infl.bitsOf zs).f i:=by
 unfold bitIn Infl.bitsOf
 simp [rk]
def GotIs (n:Nat) (zs:List Nat) (p x q b:Nat):Prop:=(b=0∧Infl.get n (Infl.bitsOf zs) p=.ok x q∧x<2 ^ n∧q=p+n)∨(b=10∧x=0∧Infl.get n (Infl.bitsOf zs) p=.bad 10)
theorem rget (n:Nat) (h:RAt w B rb rp g zs p v out most sv dv) (hz:zs.length≤140737488355328) (hn:n≤64) :
  Calls Tryz.prog 48 #[.pointer (some ⟨rp,0,none⟩),.int .i64 (n:Int)] w fun e w'=>∃ x q b:Nat,e=.returned (.tuple #[.int .u64 (x:Int),.int .i64 (b:Int)])∧RAt w' B rb rp g zs q v out most sv dv∧Chg rb rp v w v w'∧GotIs n zs p x q b:=by
 by_cases hp:p+n≤8*zs.length
 ·refine (get_ok rp g p false zs (n:Int) w h.rd hz (by omega) (by omega) (by simp;omega)).mono ?_
  rintro e w' ⟨rfl,k,rfl⟩
  refine ⟨num (Infl.bitsOf zs).f p n,p+n,0,?_,?_,Chg.only rb v ((Only.drewN rp w k).set 3 _),.inl ⟨rfl,?_,num_lt _ _ _,rfl⟩⟩
  ·rw [show (fun i=>bitIn false zs (p+i))=(fun i=>(Infl.bitsOf zs).f (p+i)) from funext fun i=>bitIn_is zs (p+i)]
   rw [show ((n:Int).toNat)=n from by simp,numAt_num]
   rfl
  ·rw [show ((p+(n:Int).toNat:Nat):Int)=((p+n:Nat):Int) from by simp]
   exact h.read k (p+n) hp
  ·unfold Infl.get;rw [bitsOf_m,if_pos hp]
 ·refine (get_end rp g p false zs (n:Int) w h.rd hz (by omega) (by omega) (by omega)).mono ?_
  rintro e w' ⟨rfl,k,rfl⟩
  refine ⟨0,p,10,rfl,h.drewN k,(Chg.refl _ _ _ _).drewN k,.inr ⟨rfl,rfl,?_⟩⟩
  unfold Infl.get;rw [bitsOf_m,if_neg hp]
def WordIs (ls zs:List Nat) (p s q b:Nat):Prop:=(b=0∧Infl.word gg ls (Infl.bitsOf zs) p=.ok s q∧s<ls.length∧p<q∧q≤8*zs.length)∨(b≠0∧b<100∧Infl.word gg ls (Infl.bitsOf zs) p=.bad b)
theorem rword {ls:List Nat} {cp:Nat} (h:RAt w B rb rp g zs p v out most sv dv) (hz:zs.length≤140737488355328) (hc:COk ls w B cp v) :
  Calls Tryz.prog 131 #[.pointer (some ⟨cp,0,none⟩),.pointer (some ⟨rp,0,none⟩)] w fun e w'=>∃ s q b:Nat,e=.returned (.tuple #[.int .i64 (s:Int),.int .i64 (b:Int)])∧RAt w' B rb rp g zs q v out most sv dv∧Chg rb rp v w v w'∧WordIs ls zs p s q b:=by
 obtain ⟨lo,hi,hcode,hlo,hhi,_⟩:=hc.ex
 have hgood:Good ls:=by obtain ⟨_,_,_,_,_,_,_,_,_,_,_,h⟩:=hcode;exact h.good
 refine (cget_ok ls cp lo hi rp g p false zs w hcode h.rd hz (by have:=h.lp;omega) hhi).mono ?_
 rintro e w' ⟨s,n,x,rfl,hget,hrd,honly⟩
 have hw:gg ls (fun i=>(Infl.bitsOf zs).f (p+i)) (8*zs.length - p)=(s,n,x):=by
  refine gg_of hgood ?_
  rw [show (fun i=>(Infl.bitsOf zs).f (p+i))=(fun i=>bitIn false zs (p+i)) from funext fun i=>(bitIn_is zs (p+i)).symm]
  exact hget
 refine ⟨s,p+n,x,rfl,h.only honly hrd,Chg.only rb v honly,?_⟩
 have hle:=hget.1
 have hple:=h.rd.le
 rcases hget.2.2 with ⟨rfl,h1,h2⟩ | ⟨rfl,_,_⟩ | ⟨rfl,_,_⟩
 ·refine .inl ⟨rfl,?_,h2.1,by omega,by omega⟩
  unfold Infl.word
  rw [bitsOf_m,hw]
 ·refine .inr ⟨by decide,by decide,?_⟩
  unfold Infl.word
  rw [bitsOf_m,hw]
 ·refine .inr ⟨by decide,by decide,?_⟩
  unfold Infl.word
  rw [bitsOf_m,hw]
theorem fit_no (n:Nat) (h:RAt w B rb rp g zs p v out most sv dv) (hm:most≤268435456) (hn:most<out.length+n) (hn2:n≤1000000) :
  Calls Tryz.prog 101 #[.pointer (some ⟨rb,0,none⟩),.int .i64 (n:Int)] w fun e w'=>e=.returned (.int .i64 3)∧∃ k,w'=w.drewN k:=by
 have c1:=h.c1
 have c2:=h.c2
 have hol:=h.ol
 obtain ⟨a,c,rfl⟩:=h.slice
 have ht:(most:Int) - (out.length:Int)<(n:Int):=by omega
 clear h
 generalize out.length=ol at *
 go_enter Tryz.func101,Tryz.ntmps101
 go_wp2_with fail
 go_quiet (fail)
 go_wp2_with fail
 go_ret
 exact ⟨rfl,_,rfl⟩
theorem fit_yes (n:Nat) (h:RAt w B rb rp g zs p v out most sv dv) (hm:most≤268435456) (hn:¬ most<out.length+n) (hn2:n≤1000000) :
  Calls Tryz.prog 101 #[.pointer (some ⟨rb,0,none⟩),.int .i64 (n:Int)] w fun e w'=>e=.returned (.int .i64 0)∧∃ k,w'=w.drewN k:=by
 have c1:=h.c1
 have c2:=h.c2
 have hol:=h.ol
 obtain ⟨a,c,rfl⟩:=h.slice
 have ht:¬ (most:Int) - (out.length:Int)<(n:Int):=by omega
 clear h
 generalize out.length=ol at *
 go_enter Tryz.func101,Tryz.ntmps101
 go_wp2_with fail
 go_quiet (fail)
 go_wp2_with fail
 go_ret
 exact ⟨rfl,_,rfl⟩
end
end
section
open Go.RowKit Mth Infl
theorem own_cells {w:World} {base:Nat} {v:Value} {m:List Nat} (h:w.ownsRow base 5 1 v m.length (m.map bv)) (h0:0<m.length):∃ g cap,v=.slice (some ⟨g,0,none⟩) m.length cap∧m.length≤cap∧base≤g∧∀ j,j<m.length→w.cell? ⟨g,j,none⟩=some (.int .u8 (m.getD j 0:Int)):=by
 obtain ⟨hl,hr⟩:=h
 rcases hr with ⟨_,e⟩ | ⟨g,cap,cur,e,hb,hh,hle,hc,hs,ht⟩
 ·omega
 ·refine ⟨g,cap,e,hle,hb,fun j hj=>?_⟩
  have h2:(cur.toList.take (m.length*1))[j]?=(m.map bv)[j]?:=by rw [ht]
  rw [List.getElem?_take,if_pos (by omega)] at h2
  simp only [World.cell?,hh]
  rw [← Array.getElem?_toList,h2]
  simp [bv,hj]
theorem piece_news {w:World} {g off n f k:Nat} {zs:List Nat} (hc:∀ j,j<n→w.cell? ⟨g,off+j,none⟩=some (.int .u8 (zs.getD j 0:Int))) (hf:f+k≤n) :
  ∀ (j:Nat) u,(((zs.drop f).take k).map bv)[j]?=some u→w.cell? ((⟨g,off+f,none⟩:Addr).add j)=some u:=by
 intro j u hj
 have hl:j<k∧f+j<zs.length:=by
  have:j<(((zs.drop f).take k).map bv).length:=by
   rcases Nat.lt_or_ge j (((zs.drop f).take k).map bv).length with h | h
   ·exact h
   ·rw [List.getElem?_eq_none h] at hj;cases hj
  simp at this
  omega
 have e:(⟨g,off+f,none⟩:Addr).add j=⟨g,off+(f+j),none⟩:=by by_cases hq:j=0 <;> simp [Addr.add,hq,Nat.add_assoc]
 rw [e,hc (f+j) (by omega)]
 rw [List.getElem?_map,List.getElem?_take,if_pos hl.1,List.getElem?_drop,List.getElem?_eq_getElem hl.2] at hj
 simp only [Option.map_some,Option.some.injEq] at hj
 rw [← hj]
 simp [bv,hl.2]
theorem run_min_nat {a b x:Nat} {A B:Int} (hA:A=(a:Int)) (hB:B=(b:Int)) (h:x=min a b) (w:World):(Builtin.min_ #[3,3] 3 #[.int .i64 A,.int .i64 B]).run Tryz.prog w=.ok (.int .i64 (x:Int)) w:=by
 rw [run_min_int2,hA,hB]
 congr 2
 split <;> omega
theorem one_cells (l:List Nat):∀ u∈l.map bv,u.oneCell'=true:=by
 intro u hu
 simp at hu
 obtain ⟨z,_,rfl⟩:=hu
 rfl
section
variable {rb rp:Nat} {v:Value} {w:World} {B g p q most:Nat} {zs out:List Nat} {sv dv:Value}
theorem single_no (x:Nat) (hx:x<256) (h:RAt w B rb rp g zs p v out most sv dv) (hm:most≤268435456) (hn:most<out.length+1) :
  Calls Tryz.prog 132 #[.pointer (some ⟨rb,0,none⟩),.int .u8 (x:Int)] w fun e w'=>e=.returned (.int .i64 3)∧Chg rb rp v w v w':=by
 have HF:=qz (fit_no 1 h hm hn (by decide))
 clear h hn hx
 go_enter Tryz.func132,Tryz.ntmps132
 go_wp2_with fail
 refine (uh HF).mono ?_
 rintro e w' ⟨rfl,k,rfl⟩
 go_wp2_with fail
 go_ret
 exact ⟨rfl,(Chg.refl _ _ _ _).drewN k⟩
theorem single_yes (x:Nat) (hx:x<256) (h:RAt w B rb rp g zs p v out most sv dv) (hm:most≤268435456) (hn:¬ most<out.length+1) :
  Calls Tryz.prog 132 #[.pointer (some ⟨rb,0,none⟩),.int .u8 (x:Int)] w fun e w'=>e=.returned (.int .i64 0)∧∃ v',RAt w' B rb rp g zs p v' (out++[x]) most sv dv∧Chg rb rp v w v' w':=by
 obtain ⟨i0,hi,hz0,hz1,hz2⟩:=info_parts info5
 have HF:=qz (fit_yes 1 h hm hn (by decide))
 have HR:=qz h
 have HX:=qz hx
 have HN:=qz hn
 have HM:=qz hm
 clear h hn hx hm
 go_enter Tryz.func132,Tryz.ntmps132
 go_wp2_with fail
 refine (uh HF).mono ?_
 rintro e w' ⟨rfl,k,rfl⟩
 have HR2:=qz ((uh HR).drewN k)
 have HC2:Hid (Chg rb rp v w v (w.drewN k)):=qz ((Chg.refl _ _ _ _).drewN k)
 generalize w.drewN k=w1 at HR2 HC2 ⊢
 clear HF HR
 have c2:=(uh HR2).c2
 have f2:=(uh HR2).fz 2
 have hlt:=(uh HR2).lt
 have HNEW:Hid (∀ (j:Nat) u,[bv x][j]?=some u→(w1.alloc (.cells #[bv x] 5)).cell? ((⟨w1.heap.size,0,none⟩:Addr).add j)=some u):=qz (news_one _ _)
 have HOW:Hid ((w1.alloc (.cells #[bv x] 5)).ownsRow B 5 1 v out.length (out.map bv)):=qz ((uh HR2).row.alloc _)
 have HBS:=qz (uh HR2).hB
 go_wp2_with (at_builtin;go_must (refine wpList_append_lies _ rfl (.tmp 15) (.tmp 17) 22 rfl B 5 i0 (.int .u8 0) 1 1 Tryz.underlying22 hi hz0 hz1 hz2 rfl (by decide) v out.length (out.map bv) (by rfl) (uh HOW) ⟨w1.heap.size,0,none⟩ 1 1 [bv x] (by rfl) rfl (uh HNEW) (by intro u hu;simp at hu;subst hu;rfl) (by decide) (by unfold maxLen;have:=uh HN;have:=uh HM;omega) (by have:=uh HN;have:=uh HM;omega) (by have:=uh HBS;simp;omega) (w1.heap.size+1) (by simp) ?_;intro g' cap' w3 hown hgrow hat hglt;have HG:=qz ((uh HR2).grow ((Below.refl _ _).alloc (Nat.le_refl _) _) (ys:=[x]) (by intro z hz;rw [List.mem_singleton.1 hz];exact uh HX) (by have:=uh HN;show out.length+1≤most;omega) hown hgrow (hat.elim Or.inl (fun e=>Or.inr (by omega))));have hbk:w3.heap[rb]?=w1.heap[rb]?:=(by rw [hgrow.block rb (by simp;omega) (fun e=>by have:=((uh HR2).own e.symm).1;have:=(uh HR2).lb;omega),Below.heap_alloc _ _ _ hlt]);have c2':w3.cell? ⟨rb,2,none⟩=some v:=(by rw [← c2];exact World.cell?_of_block hbk);have f2':w3.frozen? ⟨rb,2,none⟩=false:=(by rw [← f2];exact World.frozen?_of_block hbk);clear hown hgrow hat hglt hbk))
 go_ret
 exact ⟨rfl,_,(uh HG).1,(uh HC2).trans (uh HG).2⟩
structure AgAt (w ws:World) (B rb rp g:Nat) (zs:List Nat) (p:Nat) (v vi:Value) (out:List Nat) (most:Nat) (sv dv:Value) (n d left j:Nat):Prop where
 sum:left+j=n
 rat:RAt ws B rb rp g zs p vi (Infl.cp d j out) most sv dv
 chg:Chg rb rp v w vi ws
 per:0<left→j % d=0
theorem again_ok (n d:Nat) (h:RAt w B rb rp g zs p v out most sv dv) (hm:most≤268435456) (hn:out.length+n≤most) (hd:1≤d) (hdl:d≤out.length) (hn2:n≤1000000) :
  Calls Tryz.prog 153 #[.pointer (some ⟨rb,0,none⟩),.int .i64 (n:Int),.int .i64 (d:Int)] w fun e w'=>e=.returned (.tuple #[])∧∃ v',RAt w' B rb rp g zs p v' (Infl.cp d n out) most sv dv∧Chg rb rp v w v' w':=by
 obtain ⟨i0,hi,hz0,hz1,hz2⟩:=info_parts info5
 have HR:=qz h
 have c2:=h.c2
 obtain ⟨a,c,hv⟩:=h.slice
 rw [hv] at c2
 obtain ⟨L,hL⟩:∃ L,L=out.length:=⟨_,rfl⟩
 rw [← hL] at c2 hn hdl
 obtain ⟨F,hF⟩:∃ F:Nat,F+d=L:=⟨L - d,by omega⟩
 have hFi:(L:Int) - (d:Int)=(F:Int):=by omega
 have HST:Hid (AgAt w w B rb rp g zs p v v out most sv dv n d n 0):=qz ⟨by omega,h,Chg.refl _ _ _ _,fun _=>Nat.zero_mod d⟩
 have HL:=qz hL
 have HV:=qz hv
 clear h hL hv
 go_enter Tryz.func153,Tryz.ntmps153
 go_wp2_with fail
 clear hFi c2
 go_loopg [1] n (fun gk l ws=>∃ (left j:Nat) (vi:Value),left=gk∧l=.int .i64 (left:Int)∧left≤n∧Hid (AgAt w ws B rb rp g zs p v vi out most sv dv n d left j))
 case atStart=>exact ⟨n,0,v,rfl,rfl,Nat.le_refl _,HST⟩
 case round =>
  obtain ⟨left,j,vi,rfl,rfl,hle,hat⟩:=hrel
  clear HST
  by_cases h0:0<left
  ·have hsum:=(uh hat).sum
   have hper:=(uh hat).per h0
   have hcl:(Infl.cp d j out).length=L+j:=by rw [Infl.cp_length,uh HL]
   obtain ⟨gv,cg,rfl,hcg,hbg,hcell⟩:=own_cells (uh hat).rat.row (by omega)
   obtain ⟨m,hmm⟩:∃ m,m=Infl.cp d j out:=⟨_,rfl⟩
   have hro:=(uh hat).rat
   have hch:=(uh hat).chg
   rw [← hmm] at hcell hcg hcl hro hch
   obtain ⟨K,hK⟩:∃ K,K=m.length:=⟨_,rfl⟩
   have c2:=hro.c2
   have f2:=hro.fz 2
   have hlt:=hro.lt
   have HOW:=qz hro.row
   rw [← hK] at hcell hcg hcl HOW c2 hch hro
   have HRO:=qz hro
   have HCH:=qz hch
   have HK:=qz hK
   have HCELL:=qz hcell
   have h0i:(0:Int)<(left:Int):=by omega
   have hFK:¬ cg=F:=by omega
   obtain ⟨D,hD⟩:∃ D,D=d+j:=⟨_,rfl⟩
   have hKF:K - F=D:=by omega
   obtain ⟨k,hk⟩:∃ k,k=min D left:=⟨_,rfl⟩
   have hmn:=run_min_nat (A:=(D:Int)) (B:=(left:Int)) rfl rfl hk
   have hk1:k≤left:=by omega
   have hk2:0<k:=by omega
   have hk3:F+k≤K:=by omega
   have HBS:=qz hro.hB
   have hkl:((m.drop F).take k).length=k:=by simp;omega
   have HKL:=qz hkl
   have HNEXT:Hid (∀ g' cap' w',w'.ownsRow B 5 1 (.slice (some ⟨g',0,none⟩) (K+k) cap') (K+k) (m.map bv++((m.drop F).take k).map bv)→wr.grownBy w' (some gv)→(some gv=some g'∨g'=wr.heap.size) →
     AgAt w (w'.setCell ⟨rb,2,none⟩ (.slice (some ⟨g',0,none⟩) (K+k) cap')) B rb rp g zs p v (.slice (some ⟨g',0,none⟩) (K+k) cap') out most sv dv n d (left - k) (j+k)∧w'.heap[rb]?=wr.heap[rb]?):=qz fun g' cap' w' h1 h2 h3=>by
    have hg:=hro.grow (Below.refl _ _) (ys:=(m.drop F).take k) (fun z hz=>hro.small z (List.mem_of_mem_drop (List.mem_of_mem_take hz))) (by rw [hkl,← hK];omega) (by rw [hkl,← hK];exact h1) h2 (h3.elim Or.inl (fun e=>Or.inr (by omega)))
    rw [hkl,← hK] at hg
    have hcp:Infl.cp d (j+k) out=m++(m.drop F).take k:=by
     rw [Infl.cp_long hd (by rw [← uh HL];exact hdl) hper (by omega),← hmm,show out.length - d=F from by rw [← uh HL];omega]
    refine ⟨⟨by omega,by rw [hcp];exact hg.1,hch.trans hg.2,fun hlt=>?_⟩,?_⟩
    ·have e:k=d+j:=by omega
     rw [e]
     exact Nat.mod_eq_zero_of_dvd (Nat.dvd_add (Nat.dvd_of_mod_eq_zero hper) (Nat.dvd_add (Nat.dvd_refl d) (Nat.dvd_of_mod_eq_zero hper)))
    ·exact h2.block rb (by omega) (fun e=>by injection e with e;have:=hro.lb;omega)
   clear hcell hK hat hcl hF hkl hsum hper hmm hro hch hD hk
   go_wp2_with (at_builtin;go_must (refine wpList_append_lies _ rfl (.tmp 33) (.tmp 34) 22 rfl B 5 i0 (.int .u8 0) 1 1 Tryz.underlying22 hi hz0 hz1 hz2 rfl (by decide) _ K (m.map bv) (by rfl) (uh HOW) ⟨gv,F,none⟩ k (cg - F) (((m.drop F).take k).map bv) (by rfl) (by rw [List.length_map,uh HKL,Nat.mul_one]) (by have:=piece_news (off:=0) (f:=F) (k:=k) (zs:=m) (n:=K) (by simpa using uh HCELL) hk3;simpa using this) (one_cells _) hk2 (by unfold maxLen;have:=(uh HRO).ol;have:=uh HK;omega) (by have:=(uh HRO).ol;have:=uh HK;omega) (uh HBS) wr.heap.size rfl ?_;intro g' cap' w3 hown hgrow hat hglt;have HG:=qz (uh HNEXT g' cap' w3 hown hgrow hat);have hbk:=(uh HG).2;have c2':w3.cell? ⟨rb,2,none⟩=some (Value.slice (some ⟨gv,0,none⟩) K cg):=(by rw [← c2];exact World.cell?_of_block hbk);have f2':w3.frozen? ⟨rb,2,none⟩=false:=(by rw [← f2];exact World.frozen?_of_block hbk);clear hown hgrow hat hglt hbk))
   go_roundg (left - k)
   case measure=>omega
   case rel=>exact ⟨left - k,j+k,_,rfl,by go_num,by omega,qz (uh HG).1⟩
  ·obtain rfl:left=0:=by omega
   have HFIN:Hid (∃ v',RAt wr B rb rp g zs p v' (Infl.cp d n out) most sv dv∧Chg rb rp v w v' wr):=qz ⟨vi,(by have:=(uh hat).sum;rw [show n=j from by omega];exact (uh hat).rat),(uh hat).chg⟩
   clear hat
   go_wp2_with fail
   go_end0
   exact ⟨rfl,uh HFIN⟩
end
end
section
open Go.RowKit Mth Infl
section
variable {rb rp:Nat} {v:Value} {w:World} {B g p q most:Nat} {zs out:List Nat} {sv dv:Value}
theorem conv_u64 (x:Nat) (hx:x<4294967296) (w:World):(convert 92 3 (.int .u64 (x:Int))).run Tryz.prog w=.ok (.int .i64 (x:Int)) w:=by
 have h:IntKind.i64.wrap (x:Int)=(x:Int):=IntWalk.i64_in _ (by omega)
 go_simp
theorem lenOf_small (s:Nat) (h1:257≤s) (h2:s≤285):(Infl.lenOf s).1≤258∧(Infl.lenOf s).2≤5:=by
 have hc:∀ i,i<29→(Infl.lenOf (257+i)).1≤258∧(Infl.lenOf (257+i)).2≤5:=by decide
 have:=hc (s - 257) (by omega)
 rw [show 257+(s - 257)=s from by omega] at this
 exact this
theorem distOf_small (s:Nat) (h2:s≤29):1≤(Infl.distOf s).1∧(Infl.distOf s).1≤24577∧(Infl.distOf s).2≤13:=by
 have hc:∀ i,i<30→1≤(Infl.distOf i).1∧(Infl.distOf i).1≤24577∧(Infl.distOf i).2≤13:=by decide
 exact hc s (by omega)
theorem pow_small13 (n:Nat) (h:n≤13):2 ^ n≤8192:=Nat.le_trans (Nat.pow_le_pow_right (by decide) h) (by decide)
theorem measure_noL (s:Nat) (HL:∀ w,Calls Tryz.prog 138 #[.int .i64 (s:Int)] w fun e w'=>e=.returned (.tuple #[.int .i64 0,.int .i64 0,.int .i64 2])∧w'=w) :
  Calls Tryz.prog 152 #[.pointer (some ⟨rb,0,none⟩),.int .i64 (s:Int),.func (.func 138) #[] #[]] w fun e w'=>e=.returned (.tuple #[.int .i64 0,.int .i64 11])∧w'=w:=by
 have HL:=qz HL
 go_enter Tryz.func152,Tryz.ntmps152
 go_wp2_with fail
 refine (uh HL _).mono ?_
 rintro e w' ⟨rfl,rfl⟩
 go_wp2_with fail
 go_ret2
 exact ⟨rfl,rfl⟩
theorem measure_yesL (s:Nat) (least extra:Nat) (hl:least≤100000) (hx:extra≤13) (HL:∀ w,Calls Tryz.prog 138 #[.int .i64 (s:Int)] w fun e w'=>e=.returned (.tuple #[.int .i64 (least:Int),.int .i64 (extra:Int),.int .i64 0])∧w'=w)
  (h:RAt w B rb rp g zs p v out most sv dv) (hz:zs.length≤140737488355328) :
  Calls Tryz.prog 152 #[.pointer (some ⟨rb,0,none⟩),.int .i64 (s:Int),.func (.func 138) #[] #[]] w fun e w'=>∃ x q b:Nat,e=.returned (.tuple #[.int .i64 ((least+x:Nat):Int),.int .i64 (b:Int)])∧RAt w' B rb rp g zs q v out most sv dv∧Chg rb rp v w v w'∧GotIs extra zs p x q b:=by
 have HL:=qz HL
 have HG:=qz (rget extra h hz (by omega))
 have c0:=h.c0
 have HX:=qz hx
 clear h
 go_enter Tryz.func152,Tryz.ntmps152
 go_wp2_with fail
 refine (uh HL _).mono ?_
 rintro e w' ⟨rfl,hw⟩
 subst w'
 go_wp2_with fail
 refine (uh HG).mono ?_
 rintro e w1 ⟨x,q,b,rfl,h1,h2,h3⟩
 have hxs:x<8192:=by
  rcases h3 with ⟨_,_,h4,_⟩ | ⟨_,rfl,_⟩
  ·have:=pow_small13 extra (uh HX);omega
  ·decide
 have H1:=qz h1
 have H2:=qz h2
 have H3:=qz h3
 clear h1 h2 h3 HG HL c0
 have hcv:=conv_u64 x (by omega)
 go_wp2_with fail
 go_ret2
 exact ⟨x,q,b,rfl,uh H1,uh H2,uh H3⟩
theorem measure_noD (s:Nat) (HL:∀ w,Calls Tryz.prog 139 #[.int .i64 (s:Int)] w fun e w'=>e=.returned (.tuple #[.int .i64 0,.int .i64 0,.int .i64 2])∧w'=w) :
  Calls Tryz.prog 152 #[.pointer (some ⟨rb,0,none⟩),.int .i64 (s:Int),.func (.func 139) #[] #[]] w fun e w'=>e=.returned (.tuple #[.int .i64 0,.int .i64 11])∧w'=w:=by
 have HL:=qz HL
 go_enter Tryz.func152,Tryz.ntmps152
 go_wp2_with fail
 refine (uh HL _).mono ?_
 rintro e w' ⟨rfl,rfl⟩
 go_wp2_with fail
 go_ret2
 exact ⟨rfl,rfl⟩
theorem measure_yesD (s:Nat) (least extra:Nat) (hl:least≤100000) (hx:extra≤13) (HL:∀ w,Calls Tryz.prog 139 #[.int .i64 (s:Int)] w fun e w'=>e=.returned (.tuple #[.int .i64 (least:Int),.int .i64 (extra:Int),.int .i64 0])∧w'=w)
  (h:RAt w B rb rp g zs p v out most sv dv) (hz:zs.length≤140737488355328) :
  Calls Tryz.prog 152 #[.pointer (some ⟨rb,0,none⟩),.int .i64 (s:Int),.func (.func 139) #[] #[]] w fun e w'=>∃ x q b:Nat,e=.returned (.tuple #[.int .i64 ((least+x:Nat):Int),.int .i64 (b:Int)])∧RAt w' B rb rp g zs q v out most sv dv∧Chg rb rp v w v w'∧GotIs extra zs p x q b:=by
 have HL:=qz HL
 have HG:=qz (rget extra h hz (by omega))
 have c0:=h.c0
 have HX:=qz hx
 clear h
 go_enter Tryz.func152,Tryz.ntmps152
 go_wp2_with fail
 refine (uh HL _).mono ?_
 rintro e w' ⟨rfl,hw⟩
 subst w'
 go_wp2_with fail
 refine (uh HG).mono ?_
 rintro e w1 ⟨x,q,b,rfl,h1,h2,h3⟩
 have hxs:x<8192:=by
  rcases h3 with ⟨_,_,h4,_⟩ | ⟨_,rfl,_⟩
  ·have:=pow_small13 extra (uh HX);omega
  ·decide
 have H1:=qz h1
 have H2:=qz h2
 have H3:=qz h3
 clear h1 h2 h3 HG HL c0
 have hcv:=conv_u64 x (by omega)
 go_wp2_with fail
 go_ret2
 exact ⟨x,q,b,rfl,uh H1,uh H2,uh H3⟩
end
end
section
open Go.RowKit
section
variable {P:Program} {a:Act} {w:World} {Q:Exit→Act→World→Prop}
theorem wp_scope_on {c rest:Go.Code} (l:Nat) (hf:findLabel c l=some rest)
  (first:c.wp P (Exit.jump l (fun a w=>rest.wp P (Exit.noGoto Q) a w) Q) a w):(Go.Code.scope c).wp P Q a w :=
 wp_scope_jumps l (fun a w=>rest.wp P (Exit.noGoto Q) a w) (fun _ _=>0) hf first (fun a w hJ=>wp_mono hJ (fun e a w h=>by
  cases e with
  | goto l'=>exact h.elim
  | normal=>exact h
  | exit id=>exact h
  | ret=>exact h
  | panic ch=>exact h
  | outgrown=>exact h))
variable {l:Nat} {J:Act→World→Prop}
theorem jump_ret_of (h:Q .ret a w):Exit.jump l J Q .ret a w:=h
end
end
section
open Go.RowKit Mth Infl
noncomputable def pc (dists:List Nat) (most:Nat) (out:List Nat) (s:Nat):Rd (List Nat) :=
 if 285<s then Rd.fail 11 else (Infl.get (Infl.lenOf s).2).bind fun x=>(Infl.word gg dists).bind fun d =>
  if 29<d then Rd.fail 11 else (Infl.get (Infl.distOf d).2).bind fun y =>
   if out.length<(Infl.distOf d).1+y then Rd.fail 14
   else if most<out.length+((Infl.lenOf s).1+x) then Rd.fail 3
   else Rd.pure (Infl.cp ((Infl.distOf d).1+y) ((Infl.lenOf s).1+x) out)
def Did (r:Res (List Nat)) (w:World) (B rb rp g:Nat) (zs:List Nat) (v:Value) (most:Nat) (sv dv:Value) (e:Ending) (w':World):Prop :=
 (∃ v' o q,r=.ok o q∧e=.returned (.int .i64 0)∧RAt w' B rb rp g zs q v' o most sv dv∧Chg rb rp v w v' w')∨(∃ (b:Nat) (v':Value),r=.bad b∧b≠0∧b<100∧e=.returned (.int .i64 (b:Int))∧Chg rb rp v w v' w')
section
variable {rb rp:Nat} {v:Value} {w:World} {B g p q most:Nat} {zs out:List Nat} {sv dv:Value}
theorem Did.no {r:Res (List Nat)} {w1:World} {v1:Value} (b:Nat) (hr:r=.bad b) (h0:b≠0) (h1:b<100) (hc:Chg rb rp v w v1 w1):Did r w B rb rp g zs v most sv dv (.returned (.int .i64 (b:Int))) w1:=.inr ⟨b,v1,hr,h0,h1,rfl,hc⟩
theorem look_lenL (s:Nat) (h1:257≤s) (h2:s≤285) (w:World):Calls Tryz.prog 138 #[.int .i64 (s:Int)] w fun e w'=>e=.returned (.tuple #[.int .i64 ((Infl.lenOf s).1:Int),.int .i64 ((Infl.lenOf s).2:Int),.int .i64 0])∧w'=w:=by
 have:=len_ok (s:Int) w
 unfold lenAns at this
 rw [if_neg (by omega)] at this
 exact this
theorem look_lenN (s:Nat) (h2:285<s) (w:World):Calls Tryz.prog 138 #[.int .i64 (s:Int)] w fun e w'=>e=.returned (.tuple #[.int .i64 0,.int .i64 0,.int .i64 2])∧w'=w:=by
 have:=len_ok (s:Int) w
 unfold lenAns at this
 rw [if_pos (by omega)] at this
 exact this
theorem look_distL (s:Nat) (h2:s≤29) (w:World):Calls Tryz.prog 139 #[.int .i64 (s:Int)] w fun e w'=>e=.returned (.tuple #[.int .i64 ((Infl.distOf s).1:Int),.int .i64 ((Infl.distOf s).2:Int),.int .i64 0])∧w'=w:=by
 have:=dist_ok (s:Int) w
 unfold distAns at this
 rw [if_neg (by omega)] at this
 exact this
theorem look_distN (s:Nat) (h2:29<s) (w:World):Calls Tryz.prog 139 #[.int .i64 (s:Int)] w fun e w'=>e=.returned (.tuple #[.int .i64 0,.int .i64 0,.int .i64 2])∧w'=w:=by
 have:=dist_ok (s:Int) w
 unfold distAns at this
 rw [if_pos (by omega)] at this
 exact this
theorem piece_ok (s:Nat) {ls:List Nat} {cd:Nat} (h:RAt w B rb rp g zs p v out most sv dv) (hz:zs.length≤140737488355328) (hm:most≤268435456) (hs:257≤s) (hc:COk ls w B cd v) (hls:ls.length≤32) :
  Calls Tryz.prog 133 #[.pointer (some ⟨rb,0,none⟩),.int .i64 (s:Int),.pointer (some ⟨cd,0,none⟩)] w fun e w'=>Did (pc ls most out s (Infl.bitsOf zs) p) w B rb rp g zs v most sv dv e w':=by
 by_cases h285:285<s
 ·have HM:=qz (measure_noL (rb:=rb) (w:=w) s (look_lenN s h285))
  have HE:Hid (Did (pc ls most out s (Infl.bitsOf zs) p) w B rb rp g zs v most sv dv (.returned (.int .i64 ((11:Nat):Int))) w):=qz (Did.no 11 (by unfold pc;rw [if_pos h285];rfl) (by decide) (by decide) (Chg.refl _ _ _ _))
  clear h hs hc h285 hls hm hz
  go_enter Tryz.func133,Tryz.ntmps133
  go_wp2_with fail
  refine wp_scope_on 0 rfl ?_
  go_wp2_with fail
  refine (uh HM).mono ?_
  rintro e w' ⟨rfl,hw⟩
  subst w'
  go_wp2_with fail
  go_step3
  refine ⟨rfl,?_⟩
  go_wp2_with fail
  rw [Exit.noGoto_ret]
  go_ret
  exact uh HE
 ·obtain ⟨l1,l2⟩:=lenOf_small s hs (by omega)
  have HM:=qz (measure_yesL s _ _ (by omega) (by omega) (look_lenL s hs (by omega)) h hz)
  have HC:=qz hc
  have HLB:=qz (And.intro h.lb h.lp)
  have HP:Hid (∀ r,pc ls most out s (Infl.bitsOf zs) p=r↔((Infl.get (Infl.lenOf s).2).bind fun x=>(Infl.word gg ls).bind fun d =>
   if 29<d then Rd.fail 11 else (Infl.get (Infl.distOf d).2).bind fun y =>
    if out.length<(Infl.distOf d).1+y then Rd.fail 14
    else if most<out.length+((Infl.lenOf s).1+x) then Rd.fail 3
    else Rd.pure (Infl.cp ((Infl.distOf d).1+y) ((Infl.lenOf s).1+x) out)) (Infl.bitsOf zs) p=r):=qz (fun r=>by unfold pc;rw [if_neg h285])
  clear h hs hc h285
  generalize (Infl.lenOf s).1=le at *
  generalize (Infl.lenOf s).2=ex at *
  go_enter Tryz.func133,Tryz.ntmps133
  go_wp2_with fail
  refine wp_scope_on 0 rfl ?_
  go_wp2_with fail
  refine (uh HM).mono ?_
  rintro e w1 ⟨x,q1,b,rfl,h1,c1,g1⟩
  clear HM
  rcases g1 with ⟨rfl,g1,gx,gq⟩ | ⟨rfl,rfl,g1⟩
  ·have hx:x≤32:=by have:2 ^ ex≤2 ^ 5:=Nat.pow_le_pow_right (by decide) l2;omega
   obtain ⟨M,hM⟩:∃ M,M=le+x:=⟨_,rfl⟩
   have hM1:M≤1000:=by omega
   rw [← hM]
   have HMM:=qz hM
   clear hM
   have c0:=h1.c0
   have HR1:=qz h1
   have HC1:=qz c1
   have HG1:=qz g1
   have HW:=qz (rword h1 hz ((uh HC).chg c1 (uh HLB).1 (uh HLB).2))
   clear h1 c1 g1 gx gq
   go_wp2_with fail
   refine (uh HW).mono ?_
   rintro e w2 ⟨d,q2,b,rfl,h2,c2,g2⟩
   clear HW c0
   rcases g2 with ⟨rfl,g2,gd,gq,gq2⟩ | ⟨gb,gb2,g2⟩
   ·have HC2:=qz ((uh HC1).trans c2)
    have HG2:=qz g2
    have HR2:=qz h2
    clear c2 g2 HR1 HC1 gq gq2
    by_cases h29:29<d
    ·have HM:=qz (measure_noD (rb:=rb) (w:=w2) d (look_distN d h29))
     have HE:Hid (Did (pc ls most out s (Infl.bitsOf zs) p) w B rb rp g zs v most sv dv (.returned (.int .i64 ((11:Nat):Int))) w2):=qz (Did.no 11 ((uh HP _).2 (by rw [bind_of (uh HG1),bind_of (uh HG2),if_pos h29];rfl)) (by decide) (by decide) (uh HC2))
     clear h2 h29
     go_wp2_with fail
     refine (uh HM).mono ?_
     rintro e w' ⟨rfl,hw⟩
     subst w'
     go_wp2_with fail
     go_step3
     refine ⟨rfl,?_⟩
     go_wp2_with fail
     rw [Exit.noGoto_ret]
     go_ret
     exact uh HE
    ·obtain ⟨d1,d2,d3⟩:=distOf_small d (by omega)
     have HM:=qz (measure_yesD d _ _ (by omega) (by omega) (look_distL d (by omega)) h2 hz)
     have HP2:Hid (∀ r,pc ls most out s (Infl.bitsOf zs) p=r↔((Infl.get (Infl.distOf d).2).bind fun y =>
       if out.length<(Infl.distOf d).1+y then Rd.fail 14
       else if most<out.length+(le+x) then Rd.fail 3
       else Rd.pure (Infl.cp ((Infl.distOf d).1+y) (le+x) out)) (Infl.bitsOf zs) q2=r):=qz (fun r=>by rw [uh HP r,bind_of (uh HG1),bind_of (uh HG2),if_neg h29])
     clear h2 h29 HP HG1 HG2
     generalize (Infl.distOf d).1=ld at *
     generalize (Infl.distOf d).2=ed at *
     go_wp2_with fail
     refine (uh HM).mono ?_
     rintro e w3 ⟨y,q3,b,rfl,h3,c3,g3⟩
     clear HM
     rcases g3 with ⟨rfl,g3,gx,gq⟩ | ⟨rfl,rfl,g3⟩
     ·have hy:y≤8192:=by have:=pow_small13 ed d3;omega
      have HC3:=qz ((uh HC2).trans c3)
      have HR3:=qz h3
      have HP3:Hid (∀ r,pc ls most out s (Infl.bitsOf zs) p=r↔(if out.length<ld+y then Rd.fail 14
       else if most<out.length+(le+x) then Rd.fail 3
       else Rd.pure (Infl.cp (ld+y) (le+x) out)) (Infl.bitsOf zs) q3=r):=qz (fun r=>by rw [uh HP2 r,bind_of g3])
      have k2:=h3.c2
      obtain ⟨va,vc,hv⟩:=h3.slice
      rw [hv] at k2
      obtain ⟨L,hL⟩:∃ L,L=out.length:=⟨_,rfl⟩
      rw [← hL] at k2
      have HL:=qz hL
      clear h3 c3 g3 gx gq HP2 HC2 HR2 hv hL
      obtain ⟨D,hD⟩:∃ D,D=ld+y:=⟨_,rfl⟩
      rw [← hD] at HP3 ⊢
      rw [← uh HMM] at HP3
      have hD1:1≤D:=by omega
      clear hD
      by_cases h14:L<D
      ·have t14:(L:Int)<(D:Int):=by omega
       have HE:Hid (Did (pc ls most out s (Infl.bitsOf zs) p) w B rb rp g zs v most sv dv (.returned (.int .i64 ((14:Nat):Int))) w3):=qz (Did.no 14 ((uh HP3 _).2 (by rw [if_pos (by rw [← uh HL];exact h14)];rfl)) (by decide) (by decide) (uh HC3))
       clear h14
       go_wp2_with fail
       go_step3
       refine ⟨rfl,?_⟩
       go_wp2_with fail
       rw [Exit.noGoto_ret]
       go_ret
       exact uh HE
      ·have t14:¬ (L:Int)<(D:Int):=by omega
       by_cases h3:most<L+M
       ·have HF:=qz (fit_no M (uh HR3) hm (by rw [← uh HL];exact h3) (by omega))
        have HE:Hid (∀ k,Did (pc ls most out s (Infl.bitsOf zs) p) w B rb rp g zs v most sv dv (.returned (.int .i64 ((3:Nat):Int))) (w3.drewN k)):=qz fun k=>(Did.no 3 ((uh HP3 _).2 (by rw [if_neg (by rw [← uh HL];exact h14),if_pos (by rw [← uh HL];exact h3)];rfl)) (by decide) (by decide) ((uh HC3).drewN k))
        clear h14 h3
        go_wp2_with fail
        refine (uh HF).mono ?_
        rintro e w4 ⟨rfl,k,rfl⟩
        go_wp2_with fail
        go_step3
        refine ⟨rfl,?_⟩
        go_wp2_with fail
        rw [Exit.noGoto_ret]
        go_ret
        exact uh HE k
       ·have HF:=qz (fit_yes M (uh HR3) hm (by rw [← uh HL];exact h3) (by omega))
        have HPF:=qz ((uh HP3 _).2 (by rw [if_neg (by rw [← uh HL];exact h14),if_neg (by rw [← uh HL];exact h3)]))
        have HA:Hid (∀ k,_):=qz fun k=>again_ok M D ((uh HR3).drewN k) hm (by rw [← uh HL];omega) hD1 (by rw [← uh HL];omega) (by omega)
        clear h14 h3
        go_wp2_with fail
        refine (uh HF).mono ?_
        rintro e w4 ⟨rfl,k,rfl⟩
        go_wp2_with fail
        refine (uh HA k).mono ?_
        rintro e w5 ⟨rfl,v',hr,hch⟩
        have HRR:=qz hr
        have HCH:=qz (((uh HC3).drewN k).trans hch)
        clear hr hch
        go_wp2_with fail
        go_step3
        go_wp2_with fail
        refine jump_ret_of ?_
        go_ret
        exact .inl ⟨v',_,q3,uh HPF,rfl,uh HRR,uh HCH⟩
     ·have HE:Hid (Did (pc ls most out s (Infl.bitsOf zs) p) w B rb rp g zs v most sv dv (.returned (.int .i64 ((10:Nat):Int))) w3):=qz (Did.no 10 ((uh HP2 _).2 (bind_bad g3)) (by decide) (by decide) ((uh HC2).trans c3))
      clear h3 c3 g3
      go_wp2_with fail
      go_step3
      refine ⟨rfl,?_⟩
      go_wp2_with fail
      rw [Exit.noGoto_ret]
      go_ret
      exact uh HE
   ·have HE:Hid (Did (pc ls most out s (Infl.bitsOf zs) p) w B rb rp g zs v most sv dv (.returned (.int .i64 (b:Int))) w2):=qz (Did.no b ((uh HP _).2 (by rw [bind_of (uh HG1),bind_bad g2])) gb gb2 ((uh HC1).trans c2))
    have hb1:¬ (b:Int)=0:=by omega
    have hb2:((b:Int) == 0)=false:=by simp;omega
    clear h2 c2 g2 gb gb2
    go_wp2_with fail
    go_step3
    refine ⟨rfl,?_⟩
    go_wp2_with fail
    rw [Exit.noGoto_ret]
    go_ret
    exact uh HE
  ·have HE:Hid (Did (pc ls most out s (Infl.bitsOf zs) p) w B rb rp g zs v most sv dv (.returned (.int .i64 ((10:Nat):Int))) w1):=qz (Did.no 10 ((uh HP _).2 (bind_bad g1)) (by decide) (by decide) c1)
   clear h1 c1 g1
   go_wp2_with fail
   go_step3
   refine ⟨rfl,?_⟩
   go_wp2_with fail
   rw [Exit.noGoto_ret]
   go_ret
   exact uh HE
end
end
section
open Go.RowKit Mth Infl
theorem bytes_bad:∀ (n:Nat) (out:List Nat) (I:In) (p:Nat),p≤I.m→I.m<p+8*n→Infl.bytes n out I p=.bad 10
 | 0,out,I,p,h1,h2=>by omega
 | n+1,out,I,p,h1,h2=>by
  rw [Infl.bytes]
  by_cases c:p+8≤I.m
  ·rw [bind_of (x:=num I.f p 8) (o:=p+8) (by unfold Infl.get;rw [if_pos c])]
   exact bytes_bad n _ I (p+8) c (by omega)
  ·rw [bind_bad (e:=10) (by unfold Infl.get;rw [if_neg c])]
theorem bytes_is (zs:List Nat) (hs:∀ z∈zs,z<256) (n j:Nat) (out:List Nat) (h:j+n≤zs.length):Infl.bytes n out (Infl.bitsOf zs) (8*j)=.ok (out++(zs.drop j).take n) (8*(j+n)):=by
 have hl:((zs.drop j).take n).length=n:=by simp;omega
 have:=bytes_at zs ((zs.drop j).take n) j out (fun i hi=>by
  rw [hl] at hi
  rw [List.getElem?_take,if_pos hi,List.getElem?_drop]) (fun x hx=>hs x (List.mem_of_mem_drop (List.mem_of_mem_take hx)))
 rw [hl] at this
 exact this
theorem app_zero (w:World) (ty:TypeId) (a b:Option Addr) (n c c':Nat) (hle:n≤c):(Builtin.append_ #[22,22] ty #[.slice a n c,.slice b 0 c']).run Tryz.prog w=.ok (.slice a n c) w:=by
 obtain ⟨i0,hi,hz0,hz1,hz2⟩:=info_parts info5
 cases a <;> cases b <;> simp [Builtin.append_,Builtin.lenOf,Builtin.firstCells,run_underlying Tryz.underlying22,sizeOf,typeInfo,hi,hle,loadCells,loadCellsFrom,storeCells]
theorem wpList_append_zero {w:World} {ops:Array Oper} {rest:List Oper} {o:Oper} {a:Act} {Q:Exit→Act→World→Prop} (hgd:o.guard=none) (s x:Operand)
  (ho:o.op=.call { callee:=.builtin .append,args:=#[s,x],argTypes:=#[22,22] })
  (va b:Option Addr) (n c c':Nat) (hle:n≤c) (hs:a.eval s=.slice va n c) (hx:a.eval x=.slice b 0 c')
  (h:wpList Tryz.prog ops Q rest (a.put o.dst (.slice va n c)) w):wpList Tryz.prog ops Q (o :: rest) a w:=by
 refine wpList_plain hgd fun K hK=>?_
 have hrun:=app_zero w o.type va b n c c' hle
 unfold Oper.wp
 simp [execOp,ho,resolve,invoke,builtin,hs,hx,hrun,Result.andThen]
 exact hK _ _ h
section
variable {rb rp:Nat} {v:Value} {w w1:World} {B g p q most:Nat} {zs out:List Nat} {sv dv:Value}
theorem RAt.same (h:RAt w B rb rp g zs p v out most sv dv):RAt (w.setCell ⟨rb,2,none⟩ v) B rb rp g zs p v out most sv dv:=by
 have e:∀ k,k≠rb→(w.setCell ⟨rb,2,none⟩ v).heap[k]?=w.heap[k]?:=fun k hk=>heap_setCell_other _ _ _ _ (by exact hk)
 refine ⟨?_,h.rd.keep (e rp h.ne) (e g h.ng),own_keep h.row (fun k hk=>e k (by have:=(h.own hk).1;have:=h.lb;omega)),h.small,h.lb,h.lp,h.lg,h.ne,h.ng,h.ol,by simpa using h.hB⟩
 rw [heap_setCell_same _ rb 2 _ _ _ h.blk]
 simp
theorem Chg.same {v0:Value} {w0:World} (h:Chg rb rp v0 w0 v w) (u:Value):Chg rb rp v0 w0 v (w.setCell ⟨rb,2,none⟩ u) :=
 ⟨h.os,h.tape,h.output,by simpa using h.size,fun k h1 h2 h3 h4=>by rw [heap_setCell_other _ _ _ _ (by exact h2)];exact h.keep k h1 h2 h3 h4,h.lies⟩
theorem RAt.slice' (h:RAt w B rb rp g zs p v out most sv dv):∃ a c,v=.slice a out.length c∧out.length≤c:=by
 rcases h.row.2 with ⟨e,hn⟩ | ⟨g,c,cur,e,hb,hh,hle,_⟩
 ·exact ⟨none,0,by rw [e,hn],by omega⟩
 ·exact ⟨_,c,e,hle⟩
theorem ralign (h:RAt w B rb rp g zs p v out most sv dv) (hz:zs.length≤140737488355328) :
  Calls Tryz.prog 100 #[.pointer (some ⟨rp,0,none⟩)] w fun e w'=>e=.returned (.int .i64 0)∧RAt w' B rb rp g zs ((p+7) / 8*8) v out most sv dv∧Chg rb rp v w v w':=by
 refine (ralign_ok rp g p false zs w h.rd hz).mono ?_
 rintro e w' ⟨rfl,hr,h1,h2,h3,h4,h5⟩
 have ho:Only rp w w':=⟨h2,h3,h4,by omega,fun x _ hx=>h5 x hx⟩
 exact ⟨rfl,h.only ho hr,Chg.only rb v ho⟩
theorem xor_ffff (x:Nat) (hx:x<65536):bits .xor .u64 (x:Int) 65535=((65535 - x:Nat):Int):=by
 have h1:(x ^^^ 65535:Nat)=65535 - x:=by
  refine Nat.eq_of_testBit_eq fun i=>?_
  rw [show 65535 - x=2 ^ 16 - (x+1) from by omega,Nat.testBit_two_pow_sub_succ (by omega),Nat.testBit_xor,show (65535:Nat)=2 ^ 16 - 1 from rfl,Nat.testBit_two_pow_sub_one]
  by_cases hi:i<16
  ·simp [hi]
  ·have:x.testBit i=false:=Nat.testBit_lt_two_pow (Nat.lt_of_lt_of_le hx (Nat.pow_le_pow_right (n:=2) (by decide) (show 16≤i by omega)))
   simp [hi,this]
 have:=u64_xor_nat x 65535 (by omega) (by omega)
 rw [← h1]
 exact this
theorem stored_ok (h:RAt w B rb rp g zs p v out most sv dv) (hz:zs.length≤140737488355328) (hm:most≤268435456) :
  Calls Tryz.prog 75 #[.pointer (some ⟨rb,0,none⟩)] w fun e w'=>Did (Infl.stored most out (Infl.bitsOf zs) p) w B rb rp g zs v most sv dv e w':=by
 obtain ⟨i0,hi,hz0,hz1,hz2⟩:=info_parts info5
 have c0:=h.c0
 have HA:=qz (ralign h hz)
 obtain ⟨a,ha⟩:∃ a,a=(p+7) / 8*8:=⟨_,rfl⟩
 rw [← ha] at HA
 have ha8:a % 8=0:=by omega
 have HP:Hid (∀ r,Infl.stored most out (Infl.bitsOf zs) p=r↔((Infl.get 16).bind fun n=>(Infl.get 16).bind fun m =>
  if m≠65535 - n then Rd.fail 11 else if most<out.length+n then Rd.fail 3 else Infl.bytes n out) (Infl.bitsOf zs) a=r):=qz (fun r=>by unfold Infl.stored;rw [bind_of (x:=()) (o:=a) (by unfold Infl.align;rw [ha])])
 have HA8:=qz ha8
 clear h ha ha8
 go_enter Tryz.func75,Tryz.ntmps75
 go_wp2_with fail
 refine wp_scope_on 0 rfl ?_
 go_wp2_with fail
 refine (uh HA).mono ?_
 rintro e w1 ⟨rfl,r1,d1⟩
 have HG:=qz (rget 16 r1 hz (by decide))
 have HD1:=qz d1
 have c0:=r1.c0
 clear r1 d1 HA
 go_wp2_with fail
 refine (uh HG).mono ?_
 rintro e w2 ⟨x,q2,b,rfl,r2,d2,g2⟩
 clear HG c0
 rcases g2 with ⟨rfl,g2,gx,gq⟩ | ⟨rfl,rfl,g2⟩
 ·have HG2:=qz g2
  have HD2:=qz ((uh HD1).trans d2)
  have HG:=qz (rget 16 r2 hz (by decide))
  have c0:=r2.c0
  have hx16:x<65536:=gx
  have HQ2:=qz gq
  clear g2 d2 r2 HD1 gx gq
  go_wp2_with fail
  refine (uh HG).mono ?_
  rintro e w3 ⟨y,q3,b,rfl,r3,d3,g3⟩
  clear HG c0
  rcases g3 with ⟨rfl,g3,gx,gq⟩ | ⟨rfl,rfl,g3⟩
  ·have HD3:=qz ((uh HD2).trans d3)
   have HP2:Hid (∀ r,Infl.stored most out (Infl.bitsOf zs) p=r↔(if y≠65535 - x then Rd.fail 11 else if most<out.length+x then Rd.fail 3 else Infl.bytes x out) (Infl.bitsOf zs) q3=r):=qz (fun r=>by rw [uh HP r,bind_of (uh HG2),bind_of g3])
   have HR3:=qz r3
   have hy16:y<65536:=gx
   have HQ3:Hid (q3=a+32):=qz (by have:=uh HQ2;omega)
   have hxor:=xor_ffff x hx16
   have hq3le:=r3.rd.le
   clear g3 d3 r3 HG2 HD2 HP gx gq HQ2
   by_cases hxy:y=65535 - x
   ·have t1:((y:Int) == ((65535 - x:Nat):Int))=true:=by simp only [beq_iff_eq];omega
    have HXY:=qz hxy
    have hcv:=conv_u64 x (by omega)
    clear hxy
    by_cases hbig:most<out.length+x
    ·have HF:=qz (fit_no x (uh HR3) hm hbig (by omega))
     have HE:Hid (∀ k,Did (Infl.stored most out (Infl.bitsOf zs) p) w B rb rp g zs v most sv dv (.returned (.int .i64 ((3:Nat):Int))) (w3.drewN k)):=qz fun k=>Did.no 3 ((uh HP2 _).2 (by rw [if_neg (not_not_intro (uh HXY)),if_pos hbig];rfl)) (by decide) (by decide) ((uh HD3).drewN k)
     clear hbig
     go_wp2_with fail
     refine (uh HF).mono ?_
     rintro e w4 ⟨rfl,k,rfl⟩
     go_wp2_with fail
     go_step3
     refine ⟨rfl,?_⟩
     go_wp2_with fail
     rw [Exit.noGoto_ret]
     go_ret
     exact uh HE k
    ·have HF:=qz (fit_yes x (uh HR3) hm hbig (by omega))
     have HP3:Hid (∀ r,Infl.stored most out (Infl.bitsOf zs) p=r↔Infl.bytes x out (Infl.bitsOf zs) q3=r):=qz (fun r=>by rw [uh HP2 r,if_neg (not_not_intro (uh HXY)),if_neg hbig])
     have HBIG:=qz hbig
     obtain ⟨j,hj⟩:∃ j,q3=8*j:=⟨q3 / 8,by have:=uh HQ3;have:=uh HA8;omega⟩
     have HJ:=qz hj
     have hjz:j≤zs.length:=by omega
     clear hbig HP2 HQ3 hj
     go_wp2_with fail
     refine (uh HF).mono ?_
     rintro e w4 ⟨rfl,k,rfl⟩
     have HR4:=qz ((uh HR3).drewN k)
     have HD4:=qz ((uh HD3).drewN k)
     generalize w3.drewN k=w4 at HR4 HD4 ⊢
     clear HF HR3 HD3
     have c0:=(uh HR4).c0
     by_cases hend:j+x≤zs.length
     ·have HB:=qz (rbytes_ok rp g q3 false zs (x:Int) w4 (uh HR4).rd hz (by omega) (by have:=uh HJ;omega) (by have:=uh HJ;simp;omega) (heap_lt (uh HR4).rd.row))
      go_wp2_with fail
      refine (uh HB).mono ?_
      rintro e w5 ⟨rfl,hblk,hrd,honly⟩
      rw [show (x:Int).toNat=x from by simp] at hblk hrd ⊢
      rw [show q3 / 8=j from by have:=uh HJ;omega] at hblk
      have r5:=(uh HR4).only honly hrd
      have HD5:=qz ((uh HD4).trans (Chg.only rb v honly))
      have hbs:=bytes_is zs (uh HR4).rd.small x j out hend
      rw [show 8*(j+x)=q3+8*x from by have:=uh HJ;omega,show 8*j=q3 from (uh HJ).symm] at hbs
      have HPF:=qz ((uh HP3 _).2 hbs)
      have HBLK:=qz hblk
      have HLT:=qz (heap_lt hblk)
      have HR5:=qz r5
      clear hblk hrd honly hbs HB c0 HR4 HD4
      have c2:=r5.c2
      have f2:=r5.fz 2
      obtain ⟨va,vc,hv,hvc⟩:=r5.slice'
      clear r5
      by_cases hx0:x=0
      ·subst hx0
       have HE:Hid (Did (Infl.stored most out (Infl.bitsOf zs) p) w B rb rp g zs v most sv dv (.returned (.int .i64 0)) (w5.setCell ⟨rb,2,none⟩ (.slice va out.length vc))):=qz (.inl ⟨v,out,q3+8*0,by rw [uh HPF];simp,rfl,by rw [← hv];exact (uh HR5).same,by rw [← hv];exact (uh HD5).same v⟩)
       rw [hv] at c2
       generalize out.length=ol at c2 HE hvc
       clear hv
       have HVC:=qz hvc
       clear hvc
       go_wp2_with (at_builtin;go_must (refine wpList_append_zero rfl (.tmp 55) (.tmp 56) rfl va _ ol vc 0 (uh HVC) (by rfl) (by rfl) ?_))
       go_step3
       go_wp2_with fail
       refine jump_ret_of ?_
       go_ret
       exact uh HE
      ·have hx1:0<x:=by omega
       have HNEW:Hid (∀ (jj:Nat) u,(((zs.drop j).take x).map bv)[jj]?=some u→w5.cell? ((⟨w4.heap.size,0,none⟩:Addr).add jj)=some u):=qz (fun jj u hu=>World.news_of_block (uh HBLK) jj u (by simpa using hu))
       have hkl:((zs.drop j).take x).length=x:=by simp;omega
       have HKL:=qz hkl
       have HOW:=qz (uh HR5).row
       have HSM:=qz (uh HR5).rd.small
       have hlt:=(uh HR5).lt
       have HNX:Hid (∀ g' cap' w',w'.ownsRow B 5 1 (.slice (some ⟨g',0,none⟩) (out.length+x) cap') (out.length+x) (out.map bv++((zs.drop j).take x).map bv)→w5.grownBy w' v.ownBlock→(v.ownBlock=some g'∨g'=w5.heap.size) →
         Did (Infl.stored most out (Infl.bitsOf zs) p) w B rb rp g zs v most sv dv (.returned (.int .i64 0)) (w'.setCell ⟨rb,2,none⟩ (.slice (some ⟨g',0,none⟩) (out.length+x) cap'))∧w'.heap[rb]?=w5.heap[rb]?):=qz fun g' cap' w' h1 h2 h3=>by
        have hg:=(uh HR5).grow (Below.refl _ _) (ys:=(zs.drop j).take x) (fun z hz=>uh HSM z (List.mem_of_mem_drop (List.mem_of_mem_take hz))) (by rw [hkl];have:=uh HBIG;omega) (by rw [hkl];exact h1) h2 (h3.elim Or.inl (fun e=>Or.inr (by omega)))
        rw [hkl] at hg
        exact ⟨.inl ⟨_,_,_,uh HPF,rfl,hg.1,(uh HD5).trans hg.2⟩,h2.block rb hlt (fun e=>by have:=((uh HR5).own e.symm).1;have:=(uh HR5).lb;omega)⟩
       clear hkl hx0 hv hvc
       go_wp2_with (at_builtin;go_must (refine wpList_append_lies _ rfl (.tmp 55) (.tmp 56) 22 rfl B 5 i0 (.int .u8 0) 1 1 Tryz.underlying22 hi hz0 hz1 hz2 rfl (by decide) v out.length (out.map bv) (by rfl) (uh HOW) ⟨w4.heap.size,0,none⟩ x x (((zs.drop j).take x).map bv) (by rfl) (by rw [List.length_map,uh HKL,Nat.mul_one]) (uh HNEW) (one_cells _) hx1 (by unfold maxLen;have:=uh HBIG;omega) (by have:=uh HBIG;omega) (uh HR5).hB w5.heap.size rfl ?_;intro g' cap' w6 hown hgrow hat hglt;have HG:=qz (uh HNX g' cap' w6 hown hgrow hat);have hbk:=(uh HG).2;have c2':w6.cell? ⟨rb,2,none⟩=some v:=(by rw [← c2];exact World.cell?_of_block hbk);have f2':w6.frozen? ⟨rb,2,none⟩=false:=(by rw [← f2];exact World.frozen?_of_block hbk);clear hown hgrow hat hglt hbk))
       go_step3
       go_wp2_with fail
       refine jump_ret_of ?_
       go_ret
       exact (uh HG).1
     ·have HB:=qz (rbytes_end rp g q3 false zs (x:Int) w4 (uh HR4).rd hz (by omega) (by have:=uh HJ;omega) (by have:=uh HJ;omega))
      have c2:=(uh HR4).c2
      have f2:=(uh HR4).fz 2
      obtain ⟨va,vc,hv,hvc⟩:=(uh HR4).slice'
      have HE:Hid (Did (Infl.stored most out (Infl.bitsOf zs) p) w B rb rp g zs v most sv dv (.returned (.int .i64 ((10:Nat):Int))) (w4.drew.setCell ⟨rb,2,none⟩ (.slice va out.length vc))):=qz (Did.no (v1:=v) 10 ((uh HP3 _).2 (bytes_bad x out _ q3 (by rw [bitsOf_m];omega) (by rw [bitsOf_m];have:=uh HJ;omega))) (by decide) (by decide) (Chg.same ((uh HD4).drewN 1) _))
      rw [hv] at c2
      clear hend hv
      generalize out.length=ol at c2 HE hvc
      go_wp2_with fail
      refine (uh HB).mono ?_
      rintro e w5 ⟨rfl,rfl⟩
      have c2':w4.drew.cell? ⟨rb,2,none⟩=some (.slice va ol vc):=c2
      have f2':w4.drew.frozen? ⟨rb,2,none⟩=false:=f2
      have HVC:=qz hvc
      clear hvc
      go_wp2_with (at_builtin;go_must (refine wpList_append_zero rfl (.tmp 55) (.tmp 56) rfl va none ol vc 0 (uh HVC) (by rfl) (by rfl) ?_))
      go_step3
      go_wp2_with fail
      refine jump_ret_of ?_
      go_ret
      exact uh HE
   ·have t1:((y:Int) == ((65535 - x:Nat):Int))=false:=by simp only [beq_eq_false_iff_ne,ne_eq];omega
    have HE:Hid (Did (Infl.stored most out (Infl.bitsOf zs) p) w B rb rp g zs v most sv dv (.returned (.int .i64 ((11:Nat):Int))) w3):=qz (Did.no 11 ((uh HP2 _).2 (by rw [if_pos hxy];rfl)) (by decide) (by decide) (uh HD3))
    clear hxy
    go_wp2_with fail
    go_step3
    refine ⟨rfl,?_⟩
    go_wp2_with fail
    rw [Exit.noGoto_ret]
    go_ret
    exact uh HE
  ·have HE:Hid (Did (Infl.stored most out (Infl.bitsOf zs) p) w B rb rp g zs v most sv dv (.returned (.int .i64 ((10:Nat):Int))) w3):=qz (Did.no 10 ((uh HP _).2 (by rw [bind_of (uh HG2),bind_bad g3])) (by decide) (by decide) ((uh HD2).trans d3))
   clear r3 d3 g3
   go_wp2_with fail
   go_step3
   refine ⟨rfl,?_⟩
   go_wp2_with fail
   rw [Exit.noGoto_ret]
   go_ret
   exact uh HE
 ·have HE:Hid (Did (Infl.stored most out (Infl.bitsOf zs) p) w B rb rp g zs v most sv dv (.returned (.int .i64 ((10:Nat):Int))) w2):=qz (Did.no 10 ((uh HP _).2 (bind_bad g2)) (by decide) (by decide) ((uh HD1).trans d2))
  clear r2 d2 g2
  go_wp2_with fail
  go_step3
  refine ⟨rfl,?_⟩
  go_wp2_with fail
  rw [Exit.noGoto_ret]
  go_ret
  exact uh HE
end
end
section
open Go.RowKit Mth Infl
section
variable {l1 l2:List Nat} {most:Nat} {oi:List Nat} {I:In} {p q s:Nat}
theorem toks_bad {b:Nat} (h:Infl.word gg l1 I p=.bad b):Infl.toks gg l1 l2 most 1 oi I p=.bad b:=by
 rw [Infl.toks,bind_bad]
 unfold Infl.tok
 exact bind_bad h
theorem toks_end (h:Infl.word gg l1 I p=.ok 256 q):Infl.toks gg l1 l2 most 1 oi I p=.ok oi q:=by
 rw [Infl.toks,bind_of (x:=none) (o:=q)]
 ·rfl
 ·unfold Infl.tok
  rw [bind_of h,if_pos rfl]
  rfl
theorem toks_full (h:Infl.word gg l1 I p=.ok s q) (hs:s<256) (hm:most<oi.length+1):Infl.toks gg l1 l2 most 1 oi I p=.bad 3:=by
 rw [Infl.toks,bind_bad]
 unfold Infl.tok
 rw [bind_of h,if_neg (by omega),if_pos hs,if_pos (by omega)]
 rfl
theorem toks_byte (h:Infl.word gg l1 I p=.ok s q) (hs:s<256) (hm:¬ most<oi.length+1) (f:Nat):Infl.toks gg l1 l2 most (f+1) oi I p=Infl.toks gg l1 l2 most f (oi++[s]) I q:=by
 rw [Infl.toks,bind_of (x:=some (oi++[s])) (o:=q)]
 unfold Infl.tok
 rw [bind_of h,if_neg (by omega),if_pos hs,if_neg (by omega)]
 rfl
theorem bind_more {α β:Type} {r:Rd α} {k:α→Rd β} {I:In} {p:Nat} (h:r I p=.more):r.bind k I p=.more:=by unfold Rd.bind;rw [h]
theorem tok_pc (h:Infl.word gg l1 I p=.ok s q) (hs:256<s):Infl.tok gg l1 l2 most oi I p=match pc l2 most oi s I q with
  | .ok o q'=>.ok (some o) q'
  | .bad e=>.bad e
  | .more=>.more:=by
 unfold Infl.tok pc
 rw [bind_of h,if_neg (by omega),if_neg (by omega)]
 by_cases h285:285<s
 ·rw [if_pos h285,if_pos h285];rfl
 ·rw [if_neg h285,if_neg h285]
  cases hg:Infl.get (Infl.lenOf s).2 I q with
  | bad e=>rw [bind_bad hg,bind_bad hg]
  | more=>rw [bind_more hg,bind_more hg]
  | ok x q1 =>
   rw [bind_of hg,bind_of hg]
   cases hw:Infl.word gg l2 I q1 with
   | bad e=>rw [bind_bad hw,bind_bad hw]
   | more=>rw [bind_more hw,bind_more hw]
   | ok d q2 =>
    rw [bind_of hw,bind_of hw]
    by_cases h29:29<d
    ·rw [if_pos h29,if_pos h29];rfl
    ·rw [if_neg h29,if_neg h29]
     cases hd:Infl.get (Infl.distOf d).2 I q2 with
     | bad e=>rw [bind_bad hd,bind_bad hd]
     | more=>rw [bind_more hd,bind_more hd]
     | ok y q3 =>
      rw [bind_of hd,bind_of hd]
      split
      ·rfl
      ·split <;> rfl
theorem toks_no {b:Nat} (h:Infl.word gg l1 I p=.ok s q) (hs:256<s) (hp:pc l2 most oi s I q=.bad b):Infl.toks gg l1 l2 most 1 oi I p=.bad b:=by
 rw [Infl.toks,bind_bad]
 rw [tok_pc h hs,hp]
theorem toks_piece {o:List Nat} {q':Nat} (h:Infl.word gg l1 I p=.ok s q) (hs:256<s) (hp:pc l2 most oi s I q=.ok o q') (f:Nat):Infl.toks gg l1 l2 most (f+1) oi I p=Infl.toks gg l1 l2 most f o I q':=by
 rw [Infl.toks,bind_of (x:=some o) (o:=q')]
 rw [tok_pc h hs,hp]
end
theorem loc_pc (l2:List Nat) (most:Nat) (oi:List Nat) (s:Nat):Infl.Loc (pc l2 most oi s) :=
 Infl.Loc.ite (.fail _) ((Infl.Loc.get _).bind fun x=>(Infl.Loc.word gg gg_gl l2).bind fun d=>.ite (.fail _) ((Infl.Loc.get _).bind fun y=>.ite (.fail _) (.ite (.fail _) (.pure _))))
theorem pc_le {l2 oi o zs:List Nat} {most s p q:Nat} (h:pc l2 most oi s (Infl.bitsOf zs) p=.ok o q) (hp:p≤8*zs.length):p≤q:=((loc_pc l2 most oi s).le _ _ _ _ hp h).1
structure TkAt (w ws:World) (B rb rp g:Nat) (zs:List Nat) (p q:Nat) (v vi:Value) (out oi:List Nat) (most:Nat) (sv dv:Value) (l1 l2:List Nat) (cs cd:Nat):Prop where
 rat:RAt ws B rb rp g zs q vi oi most sv dv
 chg:Chg rb rp v w vi ws
 on:∃ n,∀ f,Infl.toks gg l1 l2 most (f+n) out (Infl.bitsOf zs) p=Infl.toks gg l1 l2 most f oi (Infl.bitsOf zs) q
 c1:COk l1 ws B cs vi
 c2:COk l2 ws B cd vi
section
variable {w ws w1:World} {B rb rp g:Nat} {zs:List Nat} {p q q':Nat} {v vi v':Value} {out oi o:List Nat} {most:Nat} {sv dv:Value} {l1 l2:List Nat} {cs cd:Nat}
theorem TkAt.next (h:TkAt w ws B rb rp g zs p q v vi out oi most sv dv l1 l2 cs cd) (hr:RAt w1 B rb rp g zs q' v' o most sv dv) (hc:Chg rb rp vi ws v' w1) (hs:∀ f,Infl.toks gg l1 l2 most (f+1) oi (Infl.bitsOf zs) q=Infl.toks gg l1 l2 most f o (Infl.bitsOf zs) q') :
  TkAt w w1 B rb rp g zs p q' v v' out o most sv dv l1 l2 cs cd:=by
 refine ⟨hr,h.chg.trans hc,?_,h.c1.chg hc hr.lb hr.lp,h.c2.chg hc hr.lb hr.lp⟩
 obtain ⟨n,hn⟩:=h.on
 exact ⟨n+1,fun f=>by rw [show f+(n+1)=(f+1)+n from by omega,hn,hs]⟩
theorem TkAt.no (h:TkAt w ws B rb rp g zs p q v vi out oi most sv dv l1 l2 cs cd) {b:Nat} {v1:Value} (h0:b≠0) (h1:b<100) (hc:Chg rb rp vi ws v1 w1) (hs:Infl.toks gg l1 l2 most 1 oi (Infl.bitsOf zs) q=.bad b) :
  ∃ F,Did (Infl.toks gg l1 l2 most F out (Infl.bitsOf zs) p) w B rb rp g zs v most sv dv (.returned (.int .i64 (b:Int))) w1:=by
 obtain ⟨n,hn⟩:=h.on
 exact ⟨1+n,.inr ⟨b,v1,by rw [hn,hs],h0,h1,rfl,h.chg.trans hc⟩⟩
theorem TkAt.stop (h:TkAt w ws B rb rp g zs p q v vi out oi most sv dv l1 l2 cs cd) (hr:RAt w1 B rb rp g zs q' vi oi most sv dv) (hc:Chg rb rp vi ws vi w1) (hs:Infl.toks gg l1 l2 most 1 oi (Infl.bitsOf zs) q=.ok oi q') :
  ∃ F,Did (Infl.toks gg l1 l2 most F out (Infl.bitsOf zs) p) w B rb rp g zs v most sv dv (.returned (.int .i64 0)) w1:=by
 obtain ⟨n,hn⟩:=h.on
 exact ⟨1+n,.inl ⟨vi,oi,q',by rw [hn,hs],rfl,hr,h.chg.trans hc⟩⟩
end
section
variable {rb rp:Nat} {v:Value} {w:World} {B g p q most:Nat} {zs out:List Nat} {sv dv:Value}
theorem conv_byte (x:Nat) (hx:x<256) (w:World):(convert 3 5 (.int .i64 (x:Int))).run Tryz.prog w=.ok (.int .u8 (x:Int)) w:=by
 have h:IntKind.u8.wrap (x:Int)=(x:Int):=IntWalk.u8_in _ (by omega)
 go_simp
theorem tokens_ok {l1 l2:List Nat} {cs cd:Nat} (h:RAt w B rb rp g zs p v out most sv dv) (hz:zs.length≤140737488355328) (hm:most≤268435456) (h1:COk l1 w B cs v) (hl1:l1.length≤288) (h2:COk l2 w B cd v) (hl2:l2.length≤32) :
  Calls Tryz.prog 105 #[.pointer (some ⟨rb,0,none⟩),.pointer (some ⟨cs,0,none⟩),.pointer (some ⟨cd,0,none⟩)] w fun e w'=>∃ F,Did (Infl.toks gg l1 l2 most F out (Infl.bitsOf zs) p) w B rb rp g zs v most sv dv e w':=by
 have HST:Hid (TkAt w w B rb rp g zs p p v v out out most sv dv l1 l2 cs cd):=qz ⟨h,Chg.refl _ _ _ _,⟨0,fun f=>rfl⟩,h1,h2⟩
 have hple:=h.rd.le
 clear h h1 h2
 go_enter Tryz.func105,Tryz.ntmps105
 go_wp2_with fail
 go_step3
 go_wp2_with fail
 go_step3
 go_wp2_with fail
 go_loopg [] (8*zs.length+1 - p) (fun gk ws=>∃ (q:Nat) (vi:Value) (oi:List Nat),gk=8*zs.length+1 - q∧q≤8*zs.length∧Hid (TkAt w ws B rb rp g zs p q v vi out oi most sv dv l1 l2 cs cd))
 case atStart=>exact ⟨p,v,out,rfl,hple,HST⟩
 case round =>
  obtain ⟨q,vi,oi,rfl,hq,hat⟩:=hrel
  clear HST
  have c0:=(uh hat).rat.c0
  have HW:=qz (rword (uh hat).rat hz (uh hat).c1)
  go_wp2_with fail
  refine (uh HW).mono ?_
  rintro e w1 ⟨s,q1,b,rfl,r1,d1,g1⟩
  clear HW c0
  rcases g1 with ⟨rfl,g1,gs,gq,gq2⟩ | ⟨gb,gb2,g1⟩
  ·have HG:=qz g1
   have HR1:=qz r1
   have HD1:=qz d1
   have HC2:=qz ((uh hat).c2.chg d1 r1.lb r1.lp)
   clear g1 r1 d1
   by_cases e256:s=256
   ·subst e256
    have HE:=qz ((uh hat).stop (uh HR1) (uh HD1) (toks_end (uh HG)))
    clear hat
    go_wp2_with fail
    rw [Exit.noGoto_ret]
    go_ret
    exact uh HE
   ·have t1:¬ (s:Int)=256:=by omega
    have t1b:((s:Int) == 256)=false:=by simp;omega
    by_cases l256:s<256
    ·have t2:(s:Int)<256:=by omega
     have hcv:=conv_byte s l256
     by_cases hfull:most<oi.length+1
     ·have HS:=qz (single_no s l256 (uh HR1) hm hfull)
      have HE:Hid (∀ w2,Chg rb rp vi w1 vi w2→_):=qz fun w2 hc=>(uh hat).no (b:=3) (by decide) (by decide) ((uh HD1).trans hc) (toks_full (uh HG) l256 hfull)
      clear hat hfull
      go_wp2_with fail
      refine (uh HS).mono ?_
      rintro e w2 ⟨rfl,hc⟩
      have HE2:=qz (uh HE w2 hc)
      clear hc HE
      go_wp2_with fail
      rw [Exit.noGoto_ret]
      go_ret
      exact uh HE2
     ·have HS:=qz (single_yes s l256 (uh HR1) hm hfull)
      have HN:Hid (∀ w2 v2,RAt w2 B rb rp g zs q1 v2 (oi++[s]) most sv dv→Chg rb rp vi w1 v2 w2→TkAt w w2 B rb rp g zs p q1 v v2 out (oi++[s]) most sv dv l1 l2 cs cd):=qz fun w2 v2 hr hc=>(uh hat).next hr ((uh HD1).trans hc) (toks_byte (uh HG) l256 hfull)
      clear hat hfull
      go_wp2_with fail
      refine (uh HS).mono ?_
      rintro e w2 ⟨rfl,v2,hr,hc⟩
      have HN2:=qz (uh HN w2 v2 hr hc)
      clear hr hc HN
      go_wp2_with fail
      go_roundg (8*zs.length+1 - q1)
      case measure=>omega
      case rel=>exact ⟨q1,v2,_,rfl,gq2,HN2⟩
    ·have t2:¬ (s:Int)<256:=by omega
     have HP:=qz (piece_ok s (uh HR1) hz hm (by omega) (uh HC2) hl2)
     have hs2:256<s:=by omega
     go_wp2_with fail
     refine (uh HP).mono ?_
     rintro e w2 hd
     rcases hd with ⟨v2,o2,q2,hp,rfl,hr,hc⟩ | ⟨b,v2,hp,hb0,hb1,rfl,hc⟩
     ·have HN2:=qz ((uh hat).next hr ((uh HD1).trans hc) (toks_piece (uh HG) hs2 hp))
      have hq2:=hr.rd.le
      have hlt:q1≤q2:=pc_le hp gq2
      clear hr hc hat hp
      go_wp2_with fail
      go_roundg (8*zs.length+1 - q2)
      case measure=>omega
      case rel=>exact ⟨q2,v2,_,rfl,hq2,HN2⟩
     ·have HE:=qz ((uh hat).no hb0 hb1 ((uh HD1).trans hc) (toks_no (uh HG) hs2 hp))
      have hb2:¬ (b:Int)=0:=by omega
      have hb3:((b:Int) == 0)=false:=by simp;omega
      clear hc hat hp hb0 hb1
      go_wp2_with fail
      rw [Exit.noGoto_ret]
      go_ret
      exact uh HE
  ·have HE:=qz ((uh hat).no gb gb2 d1 (toks_bad g1))
   have hb2:¬ (b:Int)=0:=by omega
   have hb3:((b:Int) == 0)=false:=by simp;omega
   clear hat r1 d1 g1 gb gb2
   go_wp2_with fail
   rw [Exit.noGoto_ret]
   go_ret
   exact uh HE
end
end
section
open Go.RowKit Infl
def fx (i:Nat):Nat:=if 144≤i∧i<256 then 9 else if 256≤i∧i<280 then 7 else 8
theorem order_ok (w:World):Calls Tryz.prog 144 #[] w fun e w'=>e=.returned (.slice (some ⟨w.heap.size,0,none⟩) 19 19)∧w'=w.alloc (.cells (order.map (fun z:Nat=>iv (z:Int))).toArray 3):=by
 go_enter Tryz.func144,Tryz.ntmps144
 go_wp2_with fail
 go_ret
 exact ⟨rfl,rfl⟩
theorem fixed_ok (w:World):Calls Tryz.prog 27 #[] w fun e w'=>e=.returned (.slice (some ⟨w.heap.size,0,none⟩) 288 288)∧IntsAt w' .i64 3 w.heap.size 288 fx∧Below w.heap.size w w':=by
 have hm:∀ w,(Instr.makeSlice 45 (.int .i64 288) (.int .i64 288)).run Tryz.prog w=.ok (.slice (some ⟨w.heap.size,0,none⟩) 288 288) (w.alloc (.cells (icells .i64 288 (fun _=>0)) 3)):=fun w=>ints_made w 288 (by decide)
 go_enter Tryz.func27,Tryz.ntmps27
 go_wp2_with fail
 go_loopg [6] 288 (fun gk c ws=>∃ i,gk=288 - i∧i≤288∧c=.int .i64 (i:Int)∧IntsAt ws .i64 3 w.heap.size 288 (fun j=>if j<i then fx j else 0)∧Below w.heap.size w ws)
 case atStart=>exact ⟨0,by omega,by omega,rfl,by simp only [Nat.not_lt_zero,if_false];exact heap_alloc_new _ _,(Below.refl _ _).alloc (Nat.le_refl _) _⟩
 case round =>
  obtain ⟨i,rfl,hil,rfl,hat,hbel⟩:=hrel
  clear hm
  have HA:=qz hat
  have HB:=qz hbel
  by_cases hlt:i<288
  ·have hii:(i:Int)<288:=by omega
   have k2:=hat.free i
   have k1:=hat.cell i hlt
   simp only [Nat.lt_irrefl,if_false] at k1
   have HN:Hid (∀ y,fx i=y→IntsAt (wr.setCell ⟨w.heap.size,i,none⟩ (.int .i64 (y:Int))) .i64 3 w.heap.size 288 (fun j=>if j<i+1 then fx j else 0)∧Below w.heap.size w (wr.setCell ⟨w.heap.size,i,none⟩ (.int .i64 (y:Int)))):=qz (fun y hy=>⟨((uh HA).set i y).congr (fun j hj=>by
    unfold upd
    by_cases e:j=i
    ·subst e;rw [if_pos rfl,if_pos (by omega),hy]
    ·rw [if_neg e]
     show (if j<i then fx j else 0)=_
     by_cases e2:j<i
     ·rw [if_pos e2,if_pos (by omega)]
     ·rw [if_neg e2,if_neg (by omega)]),(uh HB).setCell (Nat.le_refl _) _⟩)
   clear hat hbel HA HB
   by_cases a1:i<144
   ·have b1:(i:Int)<144:=by omega
    go_wp2_with fail
    go_roundg (288 - (i+1))
    case measure=>omega
    case rel=>exact ⟨i+1,rfl,by omega,by go_num,uh HN 8 (by unfold fx;rw [if_neg (by omega),if_neg (by omega)])⟩
   ·have b1:¬ (i:Int)<144:=by omega
    by_cases a2:i<256
    ·have b2:(i:Int)<256:=by omega
     go_wp2_with fail
     go_roundg (288 - (i+1))
     case measure=>omega
     case rel=>exact ⟨i+1,rfl,by omega,by go_num,uh HN 9 (by unfold fx;rw [if_pos (by omega)])⟩
    ·have b2:¬ (i:Int)<256:=by omega
     by_cases a3:i<280
     ·have b3:(i:Int)<280:=by omega
      go_wp2_with fail
      go_roundg (288 - (i+1))
      case measure=>omega
      case rel=>exact ⟨i+1,rfl,by omega,by go_num,uh HN 7 (by unfold fx;rw [if_neg (by omega),if_pos (by omega)])⟩
     ·have b3:¬ (i:Int)<280:=by omega
      go_wp2_with fail
      go_roundg (288 - (i+1))
      case measure=>omega
      case rel=>exact ⟨i+1,rfl,by omega,by go_num,uh HN 8 (by unfold fx;rw [if_neg (by omega),if_neg (by omega)])⟩
  ·obtain rfl:i=288:=by omega
   clear hat hbel
   go_wp2_with fail
   go_ret
   exact ⟨rfl,(uh HA).congr (fun j hj=>by show (if j<288 then fx j else 0)=_;rw [if_pos hj]),uh HB⟩
theorem fives_ok (w:World):Calls Tryz.prog 104 #[] w fun e w'=>e=.returned (.slice (some ⟨w.heap.size,0,none⟩) 32 32)∧IntsAt w' .i64 3 w.heap.size 32 (fun _=>5)∧Below w.heap.size w w':=by
 have hm:∀ w,(Instr.makeSlice 45 (.int .i64 32) (.int .i64 32)).run Tryz.prog w=.ok (.slice (some ⟨w.heap.size,0,none⟩) 32 32) (w.alloc (.cells (icells .i64 32 (fun _=>0)) 3)):=fun w=>ints_made w 32 (by decide)
 go_enter Tryz.func104,Tryz.ntmps104
 go_wp2_with fail
 go_loopg [6] 32 (fun gk c ws=>∃ i,gk=32 - i∧i≤32∧c=.int .i64 (i:Int)∧IntsAt ws .i64 3 w.heap.size 32 (fun j=>if j<i then 5 else 0)∧Below w.heap.size w ws)
 case atStart=>exact ⟨0,by omega,by omega,rfl,by simp only [Nat.not_lt_zero,if_false];exact heap_alloc_new _ _,(Below.refl _ _).alloc (Nat.le_refl _) _⟩
 case round =>
  obtain ⟨i,rfl,hil,rfl,hat,hbel⟩:=hrel
  clear hm
  have HA:=qz hat
  have HB:=qz hbel
  by_cases hlt:i<32
  ·have hii:(i:Int)<32:=by omega
   have k2:=hat.free i
   have k1:=hat.cell i hlt
   simp only [Nat.lt_irrefl,if_false] at k1
   have HN:Hid (IntsAt (wr.setCell ⟨w.heap.size,i,none⟩ (.int .i64 ((5:Nat):Int))) .i64 3 w.heap.size 32 (fun j=>if j<i+1 then 5 else 0)∧Below w.heap.size w (wr.setCell ⟨w.heap.size,i,none⟩ (.int .i64 ((5:Nat):Int)))):=qz (⟨((uh HA).set i 5).congr (fun j hj=>by
    unfold upd
    by_cases e:j=i
    ·subst e;rw [if_pos rfl,if_pos (by omega)]
    ·rw [if_neg e]
     show (if j<i then 5 else 0)=_
     by_cases e2:j<i
     ·rw [if_pos e2,if_pos (by omega)]
     ·rw [if_neg e2,if_neg (by omega)]),(uh HB).setCell (Nat.le_refl _) _⟩)
   clear hat hbel HA HB
   go_wp2_with fail
   go_roundg (32 - (i+1))
   case measure=>omega
   case rel=>exact ⟨i+1,rfl,by omega,by go_num,uh HN⟩
  ·obtain rfl:i=32:=by omega
   clear hat hbel
   go_wp2_with fail
   go_ret
   exact ⟨rfl,(uh HA).congr (fun j hj=>by show (if j<32 then 5 else 0)=_;rw [if_pos hj]),uh HB⟩
end
section
open Go.RowKit Mth Infl
open Classical in
noncomputable def ce (ls:List Nat) (most:Nat) (loose:Bool):Nat:=if okSum ls loose then 0 else 13
theorem ce_cases (ls:List Nat) (most:Nat) (loose:Bool):(ce ls most loose=0∧okSum ls loose)∨(ce ls most loose=13∧¬ okSum ls loose):=by
 unfold ce
 by_cases h:okSum ls loose
 ·rw [if_pos h];exact .inl ⟨rfl,h⟩
 ·rw [if_neg h];exact .inr ⟨rfl,h⟩
def ReadsN (w:World) (v:Value) (ls:List Nat):Prop:=ReadsI w v (ls.map fun l:Nat=>(l:Int))
theorem nat_map (ls:List Nat):nat (ls.map fun l:Nat=>(l:Int))=ls:=by
 unfold nat
 rw [List.map_map]
 conv=>rhs;rw [← List.map_id ls]
 exact List.map_congr_left fun a _=>by simp
theorem ReadsN.stays {w w1:World} {v:Value} {ls:List Nat} (h:ReadsN w v ls) (hb:Below w.heap.size w w1):ReadsN w1 v ls:=ReadsI.stays hb h
theorem rnew (ls:List Nat) (M:Nat) (loose:Bool) (v:Value) (w:World) (hr:ReadsN w v ls) (hM:1≤M∧M≤20) (hn:1≤ls.length∧ls.length≤65536) (hl:∀ l∈ls,l≤M) :
  Calls Tryz.prog 60 #[v,.int .i64 (M:Int),.bool loose] w fun e w'=>Below w.heap.size w w'∧((ce ls M loose=13∧e=.returned (.tuple #[.pointer none,.int .i64 13]))∨(ce ls M loose=0∧∃ cp,e=.returned (.tuple #[.pointer (some ⟨cp,0,none⟩),.int .i64 0])∧Code ls w' cp w.heap.size w'.heap.size)):=by
 refine (pnew_ok v _ (M:Int) loose w hr).mono ?_
 rintro e w' ⟨_,h2,h3,h4⟩
 have hok:okArgs (ls.map fun l:Nat=>(l:Int)).length (M:Int)∧∀ z∈(ls.map fun l:Nat=>(l:Int)),okLen (M:Int) z:=by
  refine ⟨⟨by omega,by omega,by simp;omega,by simp;omega⟩,fun z hz=>?_⟩
  rw [List.mem_map] at hz
  obtain ⟨l,hl1,rfl⟩:=hz
  have:=hl l hl1
  exact ⟨by omega,by omega⟩
 rw [nat_map] at h2 h3
 refine ⟨h4,?_⟩
 rcases ce_cases ls M loose with ⟨c1,c2⟩ | ⟨c1,c2⟩
 ·exact .inr ⟨c1,h3 hok c2⟩
 ·exact .inl ⟨c1,h2 hok c2⟩
def NewIs (l1 l2:List Nat) (w:World) (e:Ending) (w':World):Prop :=
 Below w.heap.size w w'∧((∃ cs cd,ce l1 15 true=0∧ce l2 15 true=0∧e=.returned (.tuple #[.pointer (some ⟨cs,0,none⟩),.pointer (some ⟨cd,0,none⟩),.int .i64 0])∧(∃ lo hi,Code l1 w' cs lo hi∧w.heap.size≤lo∧hi≤w'.heap.size)∧(∃ lo hi,Code l2 w' cd lo hi∧w.heap.size≤lo∧hi≤w'.heap.size)) ∨
  ((ce l1 15 true=13∨ce l1 15 true=0∧ce l2 15 true=13)∧e=.returned (.tuple #[.pointer none,.pointer none,.int .i64 13])))
theorem codesOf_ok (l1 l2:List Nat) (v1 v2:Value) (w:World) (h1:ReadsN w v1 l1) (h2:ReadsN w v2 l2) (hn1:1≤l1.length∧l1.length≤65536) (hn2:1≤l2.length∧l2.length≤65536) (hl1:∀ l∈l1,l≤15) (hl2:∀ l∈l2,l≤15) :
  Calls Tryz.prog 103 #[v1,v2] w fun e w'=>NewIs l1 l2 w e w':=by
 have HN1:=qz (rnew l1 15 true v1 w h1 (by decide) hn1 hl1)
 have HN2:Hid (∀ w1,Below w.heap.size w w1→_):=qz fun w1 hb=>rnew l2 15 true v2 w1 (h2.stays hb) (by decide) hn2 hl2
 clear h1 h2 hn1 hn2 hl1 hl2
 go_enter Tryz.func103,Tryz.ntmps103
 go_wp2_with fail
 refine wp_scope_on 0 rfl ?_
 go_wp2_with fail
 refine (uh HN1).mono ?_
 rintro e w1 ⟨hb,⟨hc,rfl⟩ | ⟨hc,cs,rfl,hcode⟩⟩
 ·have HE:Hid (NewIs l1 l2 w (.returned (.tuple #[.pointer none,.pointer none,.int .i64 13])) w1):=qz ⟨hb,.inr ⟨.inl hc,rfl⟩⟩
  clear hb hc
  go_wp2_with fail
  go_step3
  refine ⟨rfl,?_⟩
  go_wp2_with fail
  rw [Exit.noGoto_ret]
  go_ret3
  exact uh HE
 ·have HN:=qz (uh HN2 w1 hb)
  have HB:=qz hb
  have HC:=qz hc
  have HCO:=qz hcode
  clear hb hc hcode HN2
  go_wp2_with fail
  refine (uh HN).mono ?_
  rintro e w2 ⟨hb2,⟨hc2,rfl⟩ | ⟨hc2,cd,rfl,hcode2⟩⟩
  ·have HE:Hid (NewIs l1 l2 w (.returned (.tuple #[.pointer none,.pointer none,.int .i64 13])) w2):=qz ⟨(uh HB).trans (hb2.mono (uh HB).size),.inr ⟨.inr ⟨uh HC,hc2⟩,rfl⟩⟩
   clear hb2 hc2
   go_wp2_with fail
   go_step3
   refine ⟨rfl,?_⟩
   go_wp2_with fail
   rw [Exit.noGoto_ret]
   go_ret3
   exact uh HE
  ·have HE:Hid (NewIs l1 l2 w (.returned (.tuple #[.pointer (some ⟨cs,0,none⟩),.pointer (some ⟨cd,0,none⟩),.int .i64 0])) w2):=qz ⟨(uh HB).trans (hb2.mono (uh HB).size),.inl ⟨cs,cd,uh HC,hc2,rfl,⟨_,_,(uh HCO).below hb2 (Nat.le_refl _),Nat.le_refl _,hb2.size⟩,⟨_,_,hcode2,(uh HB).size,Nat.le_refl _⟩⟩⟩
   clear hb2 hc2 hcode2
   go_wp2_with fail
   refine jump_ret_of ?_
   go_ret3
   exact uh HE
section
variable {rb rp:Nat} {v:Value} {w w':World} {B g p q most:Nat} {zs out:List Nat} {sv dv:Value}
theorem COk.new {ls:List Nat} {cp:Nat} (h:RAt w B rb rp g zs p v out most sv dv) (hc:∃ lo hi,Code ls w' cp lo hi∧w.heap.size≤lo∧hi≤w'.heap.size):COk ls w' B cp v:=by
 obtain ⟨lo,hi,h1,h2,h3⟩:=hc
 exact ⟨lo,hi,h1,by have:=h.hB;omega,h3,fun k e=>by have:=(h.own e).2;omega⟩
theorem RAt.off {k:Nat} (h:RAt w B rb rp g zs p v out most sv dv) (h1:k≠rb) (h2:k≠rp) (h3:k≠g) (h4:v.ownBlock≠some k) (ho:Only k w w'):RAt w' B rb rp g zs p v out most sv dv :=
 ⟨by rw [ho.keep rb h.lt (fun e=>h1 e.symm)];exact h.blk,h.rd.keep (ho.keep rp h.rd.lt (fun e=>h2 e.symm)) (ho.keep g (heap_lt h.rd.row) (fun e=>h3 e.symm)),own_keep h.row (fun j e=>ho.keep j (h.own e).2 (fun e'=>h4 (by rw [← e'];exact e))),h.small,h.lb,h.lp,h.lg,h.ne,h.ng,h.ol,by have:=ho.size;have:=h.hB;omega⟩
theorem Chg.off {k:Nat} {v0:Value} {w0:World} (h:Chg rb rp v0 w0 v w) (hk:w0.heap.size≤k) (ho:Only k w w'):Chg rb rp v0 w0 v w' :=
 ⟨ho.os.trans h.os,ho.tape.trans h.tape,ho.output.trans h.output,by have:=h.size;have:=ho.size;omega,fun j h1 h2 h3 h4=>by rw [ho.keep j (by have:=h.size;omega) (by omega)];exact h.keep j h1 h2 h3 h4,h.lies⟩
theorem Chg.below' {v0:Value} {w0:World} (h:Chg rb rp v0 w0 v w) (hb:Below w.heap.size w w'):Chg rb rp v0 w0 v w':=h.trans (Chg.of_below rb rp v hb)
end
end
section
open Infl
theorem bind_assoc {α β γ:Type} (r:Rd α) (k:α→Rd β) (m:β→Rd γ):(r.bind k).bind m=r.bind fun x=>(k x).bind m:=by
 funext I p
 unfold Rd.bind
 cases r I p <;> rfl
theorem bind_pure {α β:Type} (x:α) (k:α→Rd β):(Rd.pure x).bind k=k x:=rfl
theorem bind_fail {α β:Type} (e:Nat) (k:α→Rd β):(Rd.fail (α:=α) e).bind k=Rd.fail e:=rfl
theorem bind_ite {α β:Type} (c:Prop) [Decidable c] (r s:Rd α) (k:α→Rd β):(if c then r else s).bind k=if c then r.bind k else s.bind k:=by split <;> rfl
theorem bind_okE {α β:Type} (e:Nat) (r:Rd α) (k:α→Rd β):(okE e r).bind k=okE e (r.bind k):=by
 unfold okE
 rw [bind_ite,bind_fail]
def cnt:Rd (Nat × Nat × Nat):=(Infl.get 5).bind fun l=>(Infl.get 5).bind fun d=>(Infl.get 4).bind fun k =>
 if 286<l+257∨30<d+1 then Rd.fail 11 else Rd.pure (l+257,d+1,k+4)
noncomputable def inn (k:Nat):Rd (List Nat):=(threes k []).bind fun vs=>okE (ce (ownOf vs) 7 false) (Rd.pure (ownOf vs))
noncomputable def cod:Rd (List Nat × List Nat):=cnt.bind fun c=>(inn c.2.2).bind fun own=>(lens gg own (c.1+c.2.1) (c.1+c.2.1) []).bind fun all =>
 if all.getD 256 0=0 then Rd.fail 11 else okE (ce (all.take c.1) 15 true) (okE (ce (all.drop c.1) 15 true) (Rd.pure (all.take c.1,all.drop c.1)))
theorem told_cod (most fuel:Nat) (out:List Nat):told gg ce most fuel out=cod.bind fun c=>toks gg c.1 c.2 most fuel out:=by
 unfold told cod cnt inn
 simp only [bind_assoc,bind_ite,bind_fail,bind_pure,bind_okE]
def stp (all:List Nat) (s:Nat):Rd (Nat × Nat) :=
 if s=16 then (Infl.get 2).bind fun x=>if all=[] then Rd.fail 11 else Rd.pure (all.getD (all.length - 1) 0,3+x)
 else if s=17 then (Infl.get 3).bind fun x=>Rd.pure (0,3+x)
 else if s=18 then (Infl.get 7).bind fun x=>Rd.pure (0,11+x)
 else Rd.pure (s,1)
theorem lens_stp (own:List Nat) (tot k:Nat) (all:List Nat) (h:¬ tot≤all.length):lens gg own tot (k+1) all=(word gg own).bind fun s=>(stp all s).bind fun a=>if tot<all.length+a.2 then Rd.fail 11 else lens gg own tot k (all++List.replicate a.2 a.1):=by
 rw [lens,if_neg h]
 congr 1
 funext s
 unfold stp
 by_cases h16:s=16
 ·simp only [if_pos h16,bind_assoc,bind_ite,bind_fail,bind_pure]
 ·by_cases h17:s=17
  ·simp only [if_neg h16,if_pos h17,bind_assoc,bind_pure]
  ·by_cases h18:s=18
   ·simp only [if_neg h16,if_neg h17,if_pos h18,bind_assoc,bind_pure]
   ·simp only [if_neg h16,if_neg h17,if_neg h18,bind_pure]
    rw [if_neg (by omega)]
    rfl
theorem lens_done (own:List Nat) (tot k:Nat) (all:List Nat) (h:tot≤all.length):lens gg own tot k all=Rd.pure all:=by
 cases k with
 | zero=>rw [lens,if_pos h]
 | succ k=>rw [lens,if_pos h]
theorem order_idx:∀ j,j<19→∀ i,i<19→(order.idxOf j=i↔order.getD i 0=j):=by decide
theorem order_lt:∀ i,i<19→order.getD i 0<19:=by decide
theorem own_next (vs:List Nat) (x:Nat) (h:vs.length<19) (j:Nat) (hj:j<19):(vs++[x]).getD (order.idxOf j) 0=if j=order.getD vs.length 0 then x else vs.getD (order.idxOf j) 0:=by
 have hi:=order_idx j hj vs.length h
 by_cases e:j=order.getD vs.length 0
 ·rw [if_pos e,hi.2 e.symm,List.getD_eq_getElem?_getD,List.getElem?_append_right (Nat.le_refl _)]
  simp
 ·rw [if_neg e]
  have hne:order.idxOf j≠vs.length:=fun c=>e (hi.1 c).symm
  rw [List.getD_eq_getElem?_getD,List.getD_eq_getElem?_getD]
  by_cases hl:order.idxOf j<vs.length
  ·rw [List.getElem?_append_left hl]
  ·rw [List.getElem?_eq_none (by simp;omega),List.getElem?_eq_none (by omega)]
theorem threes_next (k:Nat) (l:List Nat) (I:In) (p q x:Nat) (h:Infl.get 3 I p=.ok x q):threes (k+1) l I p=threes k (l++[x]) I q:=by
 rw [threes,bind_of h]
theorem threes_bad (k:Nat) (l:List Nat) (I:In) (p e:Nat) (h:Infl.get 3 I p=.bad e):threes (k+1) l I p=.bad e:=by
 rw [threes,bind_bad h]
theorem ownOf_length (vs:List Nat):(ownOf vs).length=19:=by simp [ownOf]
theorem ownOf_le (vs:List Nat) (h:∀ v∈vs,v≤7):∀ l∈ownOf vs,l≤7:=by
 intro l hl
 unfold ownOf at hl
 rw [List.mem_map] at hl
 obtain ⟨j,_,rfl⟩:=hl
 rw [List.getD_eq_getElem?_getD]
 cases hg:vs[order.idxOf j]? with
 | none=>simp
 | some a=>exact h a (List.mem_of_getElem? hg)
end
section
open Go.RowKit Mth Infl
def RepIs (all:List Nat) (s:Nat) (w:World) (B rb rp g:Nat) (zs:List Nat) (p:Nat) (v:Value) (out:List Nat) (most:Nat) (sv dv:Value) (e:Ending) (w':World):Prop :=
 Chg rb rp v w v w'∧((∃ a n q:Nat,e=.returned (.tuple #[.int .i64 (a:Int),.int .i64 (n:Int),.int .i64 0])∧stp all s (Infl.bitsOf zs) p=.ok (a,n) q∧1≤n∧n≤200∧a≤15∧RAt w' B rb rp g zs q v out most sv dv) ∨
  (∃ b a n:Nat,b≠0∧b<100∧e=.returned (.tuple #[.int .i64 (a:Int),.int .i64 (n:Int),.int .i64 (b:Int)])∧stp all s (Infl.bitsOf zs) p=.bad b))
section
variable {rb rp:Nat} {v:Value} {w w':World} {B g p q most:Nat} {zs out:List Nat} {sv dv:Value}
theorem repeat_ok (s:Nat) (hs:s<19) (all:List Nat) (hal:∀ z∈all,z≤15) (la:Option Addr) (lc:Nat) (hlen:all.length≤100000) (hr:0<all.length→∃ b,la=some ⟨b,0,none⟩∧(∀ j,j<all.length→w.cell? ⟨b,j,none⟩=some (.int .i64 (all.getD j 0:Int)))∧b≠rb∧b≠rp∧v.ownBlock≠some b)
  (h:RAt w B rb rp g zs p v out most sv dv) (hz:zs.length≤140737488355328) :
  Calls Tryz.prog 154 #[.pointer (some ⟨rb,0,none⟩),.int .i64 (s:Int),.slice la all.length lc] w fun e w'=>RepIs all s w B rb rp g zs p v out most sv dv e w':=by
 have c0:=h.c0
 by_cases h16:s=16
 ·subst h16
  have HG:=qz (rget 2 h hz (by decide))
  obtain ⟨L,hL⟩:∃ L,L=all.length:=⟨_,rfl⟩
  rw [← hL]
  have HL:=qz hL
  have HR:=qz hr
  have HAL:=qz hal
  rw [← hL] at hlen
  clear h hr hL hal
  go_enter Tryz.func154,Tryz.ntmps154
  go_wp2_with fail
  refine (uh HG).mono ?_
  rintro e w1 ⟨x,q1,b,rfl,r1,d1,g1⟩
  clear HG c0
  rcases g1 with ⟨rfl,g1,gx,_⟩ | ⟨rfl,rfl,g1⟩
  ·have hx:x<4:=gx
   have HR1:=qz r1
   have HD1:=qz d1
   have HG1:=qz g1
   have hcv:=conv_u64 x (by omega)
   by_cases h0:L=0
   ·subst h0
    have HE:Hid (RepIs all 16 w B rb rp g zs p v out most sv dv (.returned (.tuple #[.int .i64 ((0:Nat):Int),.int .i64 ((0:Nat):Int),.int .i64 ((11:Nat):Int)])) w1):=qz ⟨d1,.inr ⟨11,0,0,by decide,by decide,rfl,by unfold stp;rw [if_pos rfl,bind_of g1,if_pos (List.eq_nil_of_length_eq_zero (uh HL).symm)];rfl⟩⟩
    clear r1 d1 g1 gx
    go_wp2_with fail
    go_ret3
    exact uh HE
   ·obtain ⟨b,hla,hcell,hb1,hb2,hb3⟩:=uh HR (by rw [← uh HL];omega)
    subst hla
    have hc:=hcell (L - 1) (by rw [← uh HL];omega)
    have hc':w1.cell? ⟨b,L - 1,none⟩=some (.int .i64 (all.getD (L - 1) 0:Int)):=by
     rw [← hc]
     exact World.cell?_of_block (d1.keep b (cell_lt hc) hb1 hb2 hb3)
    have hmem:all.getD (L - 1) 0≤15:=uh HAL _ (getD_mem all (L - 1) (by rw [← uh HL];omega))
    have HE:Hid (RepIs all 16 w B rb rp g zs p v out most sv dv (.returned (.tuple #[.int .i64 (all.getD (L - 1) 0:Int),.int .i64 (3+(x:Int)),.int .i64 0])) w1):=qz ⟨d1,.inl ⟨all.getD (L - 1) 0,3+x,q1,by rw [show ((3+x:Nat):Int)=3+(x:Int) from by omega],by unfold stp;rw [if_pos rfl,bind_of g1,if_neg (fun e=>h0 (by rw [uh HL,e];rfl)),← uh HL];rfl,by omega,by omega,hmem,r1⟩⟩
    obtain ⟨K,hK⟩:∃ K:Nat,L=K+1:=⟨L - 1,by omega⟩
    subst hK
    simp only [Nat.add_sub_cancel] at hc' HE hmem
    generalize all.getD K 0=y at hc' HE hmem
    have t0:((K+1:Nat):Int)=(K:Int)+1:=by omega
    have t1:¬ ((K:Int)+1=0):=by omega
    have t1b:((K:Int)+1 == 0)=false:=by simp;omega
    clear hc hcell r1 d1 g1 gx h0 hb1 hb2 hb3
    go_wp2_with fail
    go_ret3
    exact uh HE
  ·have HE:Hid (RepIs all 16 w B rb rp g zs p v out most sv dv (.returned (.tuple #[.int .i64 ((0:Nat):Int),.int .i64 ((0:Nat):Int),.int .i64 ((10:Nat):Int)])) w1):=qz ⟨d1,.inr ⟨10,0,0,by decide,by decide,rfl,by unfold stp;rw [if_pos rfl,bind_bad g1]⟩⟩
   clear r1 d1 g1
   go_wp2_with fail
   go_ret3
   exact uh HE
 ·have t16:¬ (s:Int)=16:=by omega
  have t16b:((s:Int) == 16)=false:=by simp;omega
  by_cases h17:s=17
  ·subst h17
   have HG:=qz (rget 3 h hz (by decide))
   clear h hr hal
   go_enter Tryz.func154,Tryz.ntmps154
   go_wp2_with fail
   refine (uh HG).mono ?_
   rintro e w1 ⟨x,q1,b,rfl,r1,d1,g1⟩
   clear HG c0
   have hx:x<8:=by
    rcases g1 with ⟨_,_,gx,_⟩ | ⟨_,rfl,_⟩
    ·exact gx
    ·decide
   have hcv:=conv_u64 x (by omega)
   have HE:Hid (RepIs all 17 w B rb rp g zs p v out most sv dv (.returned (.tuple #[.int .i64 ((0:Nat):Int),.int .i64 (3+(x:Int)),.int .i64 (b:Int)])) w1):=qz (by
    refine ⟨d1,?_⟩
    rcases g1 with ⟨rfl,g1,_,_⟩ | ⟨rfl,rfl,g1⟩
    ·exact .inl ⟨0,3+x,q1,by rw [show ((3+x:Nat):Int)=3+(x:Int) from by omega];rfl,by unfold stp;rw [if_neg (by decide),if_pos rfl,bind_of g1];rfl,by omega,by omega,by decide,r1⟩
    ·exact .inr ⟨10,0,3,by decide,by decide,rfl,by unfold stp;rw [if_neg (by decide),if_pos rfl,bind_bad g1]⟩)
   clear r1 d1 g1
   go_wp2_with fail
   go_ret3
   exact uh HE
  ·have t17:¬ (s:Int)=17:=by omega
   have t17b:((s:Int) == 17)=false:=by simp;omega
   by_cases h18:s=18
   ·subst h18
    have HG:=qz (rget 7 h hz (by decide))
    clear h hr hal
    go_enter Tryz.func154,Tryz.ntmps154
    go_wp2_with fail
    refine (uh HG).mono ?_
    rintro e w1 ⟨x,q1,b,rfl,r1,d1,g1⟩
    clear HG c0
    have hx:x<128:=by
     rcases g1 with ⟨_,_,gx,_⟩ | ⟨_,rfl,_⟩
     ·exact gx
     ·decide
    have hcv:=conv_u64 x (by omega)
    have HE:Hid (RepIs all 18 w B rb rp g zs p v out most sv dv (.returned (.tuple #[.int .i64 ((0:Nat):Int),.int .i64 (11+(x:Int)),.int .i64 (b:Int)])) w1):=qz (by
     refine ⟨d1,?_⟩
     rcases g1 with ⟨rfl,g1,_,_⟩ | ⟨rfl,rfl,g1⟩
     ·exact .inl ⟨0,11+x,q1,by rw [show ((11+x:Nat):Int)=11+(x:Int) from by omega];rfl,by unfold stp;rw [if_neg (by decide),if_neg (by decide),if_pos rfl,bind_of g1];rfl,by omega,by omega,by decide,r1⟩
     ·exact .inr ⟨10,0,11,by decide,by decide,rfl,by unfold stp;rw [if_neg (by decide),if_neg (by decide),if_pos rfl,bind_bad g1]⟩)
    clear r1 d1 g1
    go_wp2_with fail
    go_ret3
    exact uh HE
   ·have t18:¬ (s:Int)=18:=by omega
    have t18b:((s:Int) == 18)=false:=by simp;omega
    have HE:Hid (RepIs all s w B rb rp g zs p v out most sv dv (.returned (.tuple #[.int .i64 (s:Int),.int .i64 ((1:Nat):Int),.int .i64 0])) w):=qz ⟨Chg.refl _ _ _ _,.inl ⟨s,1,p,rfl,by unfold stp;rw [if_neg h16,if_neg h17,if_neg h18];rfl,by decide,by decide,by omega,h⟩⟩
    clear h hr hal h16 h17 h18
    go_enter Tryz.func154,Tryz.ntmps154
    go_wp2_with fail
    go_ret3
    exact uh HE
end
end
section
open Go.RowKit Mth Infl
def InnIs (k:Nat) (w:World) (B rb rp g:Nat) (zs:List Nat) (p:Nat) (v:Value) (out:List Nat) (most:Nat) (sv dv:Value) (e:Ending) (w':World):Prop :=
 Chg rb rp v w v w'∧((∃ (cp q:Nat) (own:List Nat),e=.returned (.tuple #[.pointer (some ⟨cp,0,none⟩),.int .i64 0])∧inn k (Infl.bitsOf zs) p=.ok own q∧own.length=19∧RAt w' B rb rp g zs q v out most sv dv∧COk own w' B cp v) ∨
  (∃ b:Nat,b≠0∧b<100∧e=.returned (.tuple #[.pointer none,.int .i64 (b:Int)])∧inn k (Infl.bitsOf zs) p=.bad b))
structure InAt2 (k:Nat) (w ws:World) (B rb rp g:Nat) (zs:List Nat) (p:Nat) (v:Value) (out:List Nat) (most:Nat) (sv dv:Value) (go gl i:Nat) (vs:List Nat) (q:Nat):Prop where
 len:vs.length=i
 le:∀ x∈vs,x≤7
 on:threes k [] (Infl.bitsOf zs) p=threes (k - i) vs (Infl.bitsOf zs) q
 rat:RAt ws B rb rp g zs q v out most sv dv
 chg:Chg rb rp v w v ws
 ord:∀ j,j<19→ws.cell? ⟨go,j,none⟩=some (.int .i64 ((order.getD j 0:Nat):Int))
 ints:IntsAt ws .i64 3 gl 19 (fun j=>vs.getD (order.idxOf j) 0)
section
variable {rb rp:Nat} {v:Value} {w ws w1 w':World} {B g p q most:Nat} {zs out:List Nat} {sv dv:Value} {k go gl i x q1:Nat} {vs:List Nat}
theorem order_cells (w:World) (j:Nat) (hj:j<19):(w.alloc (.cells (order.map (fun z:Nat=>iv (z:Int))).toArray 3)).cell? ⟨w.heap.size,j,none⟩=some (.int .i64 ((order.getD j 0:Nat):Int)):=by
 simp only [World.cell?,heap_alloc_new]
 rw [List.getElem?_toArray,List.getElem?_map]
 rw [List.getD_eq_getElem?_getD,List.getElem?_eq_getElem (show j<order.length from hj)]
 rfl
theorem InAt2.next (h:InAt2 k w ws B rb rp g zs p v out most sv dv go gl i vs q) (hr:RAt ws B rb rp g zs q v out most sv dv) (hv:∀ j,v.ownBlock=some j→j<w.heap.size) (hB:B≤w.heap.size) (hgo:w.heap.size≤go) (hgl:go<gl) (hik:i<k) (hk:k≤19)
  (r1:RAt w1 B rb rp g zs q1 v out most sv dv) (d1:Chg rb rp v ws v w1) (g1:Infl.get 3 (Infl.bitsOf zs) q=.ok x q1) (hx:x<8) :
  InAt2 k w (w1.setCell ⟨gl,order.getD i 0,none⟩ (.int .i64 (x:Int))) B rb rp g zs p v out most sv dv go gl (i+1) (vs++[x]) q1:=by
 have hlb:=r1.lb
 have hlp:=r1.lp
 have hlg:=r1.lg
 have hgls:gl<ws.heap.size:=h.ints.lt
 have hlen:=h.len
 have hvgl:v.ownBlock≠some gl:=fun e=>by have:=hv gl e;omega
 have hvgo:v.ownBlock≠some go:=fun e=>by have:=hv go e;omega
 have hi1:IntsAt w1 .i64 3 gl 19 (fun j=>vs.getD (order.idxOf j) 0):=by
  unfold IntsAt
  rw [d1.keep gl hgls (by omega) (by omega) hvgl]
  exact h.ints
 have ho:Only gl w1 (w1.setCell ⟨gl,order.getD i 0,none⟩ (.int .i64 (x:Int))):=(Only.refl gl w1).set _ _
 refine ⟨by simp [hlen],fun y hy=>?_,?_,r1.off (by omega) (by omega) (by omega) hvgl ho,(h.chg.trans d1).off (by omega) ho,fun j hj=>?_,?_⟩
 ·rw [List.mem_append] at hy
  rcases hy with hy | hy
  ·exact h.le y hy
  ·rw [List.mem_singleton.1 hy];omega
 ·rw [h.on,show k - i=(k - (i+1))+1 from by omega,threes_next _ _ _ _ _ _ g1]
 ·have hc:=h.ord j hj
  rw [← hc]
  have e1:w1.cell? ⟨go,j,none⟩=ws.cell? ⟨go,j,none⟩:=World.cell?_of_block (d1.keep go (cell_lt hc) (by omega) (by omega) hvgo)
  rw [← e1]
  exact World.cell?_of_block (heap_setCell_other _ _ _ _ (by show go≠gl;omega))
 ·refine (hi1.set (order.getD i 0) x).congr (fun j hj=>?_)
  rw [own_next vs x (by omega) j hj,hlen]
  unfold upd
  rfl
theorem innerCode_ok (h:RAt w B rb rp g zs p v out most sv dv) (hz:zs.length≤140737488355328) (h4:4≤k) (hk:k≤19) :
  Calls Tryz.prog 135 #[.pointer (some ⟨rb,0,none⟩),.int .i64 (k:Int)] w fun e w'=>InnIs k w B rb rp g zs p v out most sv dv e w':=by
 have hm:∀ w,(Instr.makeSlice 45 (.int .i64 19) (.int .i64 19)).run Tryz.prog w=.ok (.slice (some ⟨w.heap.size,0,none⟩) 19 19) (w.alloc (.cells (icells .i64 19 (fun _=>0)) 3)):=fun w=>ints_made w 19 (by decide)
 have hki:(k:Int)≤19:=by omega
 have HST:Hid (InAt2 k w ((w.alloc (.cells (order.map (fun z:Nat=>iv (z:Int))).toArray 3)).alloc (.cells (icells .i64 19 (fun _=>0)) 3)) B rb rp g zs p v out most sv dv w.heap.size (w.heap.size+1) 0 [] p):=qz (by
  have hb:Below w.heap.size w ((w.alloc (.cells (order.map (fun z:Nat=>iv (z:Int))).toArray 3)).alloc (.cells (icells .i64 19 (fun _=>0)) 3)):=((Below.refl _ _).alloc (Nat.le_refl _) _).alloc (by simp) _
  refine ⟨rfl,fun x hx=>by simp at hx,rfl,h.below hb,Chg.of_below _ _ _ hb,fun j hj=>?_,?_⟩
  ·rw [← order_cells w j hj]
   exact World.cell?_of_block (Below.heap_alloc _ _ _ (by simp))
  ·unfold IntsAt
   rw [show w.heap.size+1=(w.alloc (.cells (order.map (fun z:Nat=>iv (z:Int))).toArray 3)).heap.size by simp,heap_alloc_new]
   rfl)
 have HV:Hid ((∀ j,v.ownBlock=some j→j<w.heap.size)∧B≤w.heap.size):=qz ⟨fun j e=>(h.own e).2,h.hB⟩
 clear h
 go_enter Tryz.func135,Tryz.ntmps135
 go_wp2_with fail
 refine (order_ok w).mono ?_
 rintro e w1 ⟨rfl,rfl⟩
 go_wp2_with fail
 clear hm
 obtain ⟨go,hgo⟩:∃ go,go=w.heap.size:=⟨_,rfl⟩
 obtain ⟨gl,hgl⟩:∃ gl,gl=w.heap.size+1:=⟨_,rfl⟩
 rw [← hgl,← hgo] at HST ⊢
 have HGO:Hid (w.heap.size≤go∧go<gl):=qz (by omega)
 clear hgo hgl
 generalize (w.alloc (.cells (order.map (fun z:Nat=>iv (z:Int))).toArray 3)).alloc (.cells (icells .i64 19 (fun _=>0)) 3)=w1 at HST ⊢
 go_loopg [20] k (fun gk c ws=>∃ (i q:Nat) (vs:List Nat),gk=k - i∧i≤k∧c=.int .i64 (i:Int)∧Hid (InAt2 k w ws B rb rp g zs p v out most sv dv go gl i vs q))
 case atStart=>exact ⟨0,p,[],by omega,by omega,rfl,HST⟩
 case round =>
  obtain ⟨i,q,vs,rfl,hik,rfl,hat⟩:=hrel
  clear HST
  by_cases hlt:i<k
  ·have hii:(i:Int)<(k:Int):=by omega
   have k1:=(uh hat).ord i (by omega)
   have hol:=order_lt i (by omega)
   obtain ⟨o,ho⟩:∃ o,o=order.getD i 0:=⟨_,rfl⟩
   rw [← ho] at k1 hol
   have c0:=(uh hat).rat.c0
   have HG:=qz (rget 3 (uh hat).rat hz (by decide))
   have HO:=qz ho
   have hoi:(o:Int)<19:=by omega
   clear ho
   go_wp2_with fail
   refine (uh HG).mono ?_
   rintro e w2 ⟨x,q1,b,rfl,r1,d1,g1⟩
   clear HG c0 k1
   rcases g1 with ⟨rfl,g1,gx,_⟩ | ⟨rfl,rfl,g1⟩
   ·have HN:=qz ((uh hat).next (uh hat).rat (uh HV).1 (uh HV).2 (uh HGO).1 (uh HGO).2 hlt hk r1 d1 g1 gx)
    rw [← uh HO] at HN
    have hx:x<8:=gx
    have hi2:w2.heap[gl]?=wr.heap[gl]?:=d1.keep gl (uh hat).ints.lt (by have:=r1.lb;have:=uh HV;have:=uh HGO;omega) (by have:=r1.lp;have:=uh HV;have:=uh HGO;omega) (fun e=>by have:=(uh HV).1 gl e;have:=uh HGO;omega)
    have hi3:IntsAt w2 .i64 3 gl 19 (fun j=>vs.getD (order.idxOf j) 0):=by unfold IntsAt;rw [hi2];exact (uh hat).ints
    have k2:=hi3.free o
    have k3:=hi3.cell o hol
    have hcv:=conv_u64 x (by omega)
    generalize vs.getD (order.idxOf o) 0=old at k3
    clear r1 d1 g1 gx hi2 hi3 hat
    go_wp2_with fail
    go_roundg (k - (i+1))
    case measure=>omega
    case rel=>exact ⟨i+1,q1,_,rfl,by omega,by go_num,HN⟩
   ·have HE:Hid (InnIs k w B rb rp g zs p v out most sv dv (.returned (.tuple #[.pointer none,.int .i64 ((10:Nat):Int)])) w2):=qz ⟨(uh hat).chg.trans d1,.inr ⟨10,by decide,by decide,rfl,by unfold inn;rw [bind_bad];rw [(uh hat).on,show k - i=(k - (i+1))+1 from by omega,threes_bad _ _ _ _ _ g1]⟩⟩
    clear r1 d1 g1 hat
    go_wp2_with fail
    go_ret2
    exact uh HE
  ·obtain rfl:i=k:=by omega
   have hrd:ReadsN wr (.slice (some ⟨gl,0,none⟩) 19 19) (ownOf vs):=by
    refine ⟨some ⟨gl,0,none⟩,19,by rw [List.length_map,ownOf_length],fun _=>⟨gl,0,rfl,fun j hj=>?_⟩⟩
    rw [List.length_map,ownOf_length] at hj
    rw [Nat.zero_add,(uh hat).ints.cell j hj]
    unfold ownOf
    rw [List.map_map]
    have e:((List.range 19).map ((fun l:Nat=>(l:Int))∘fun j=>vs.getD (order.idxOf j) 0))[j]?=some ((vs.getD (order.idxOf j) 0:Nat):Int):=by
     rw [List.getElem?_map,List.getElem?_range hj];rfl
    rw [List.getD_eq_getElem?_getD (l:=List.map _ _),e]
    rfl
   have HN:=qz (rnew (ownOf vs) 7 false _ wr hrd (by decide) (by rw [ownOf_length];decide) (ownOf_le vs (uh hat).le))
   have HTH:Hid (threes i [] (Infl.bitsOf zs) p=.ok vs q):=qz (by rw [(uh hat).on,Nat.sub_self];rfl)
   have HRT:=qz (uh hat).rat
   have HCH:=qz (uh hat).chg
   clear hat hrd
   go_wp2_with fail
   refine (uh HN).mono ?_
   rintro e w2 ⟨hb,⟨hc,rfl⟩ | ⟨hc,cp,rfl,hcode⟩⟩
   ·have HE:Hid (InnIs i w B rb rp g zs p v out most sv dv (.returned (.tuple #[.pointer none,.int .i64 ((13:Nat):Int)])) w2):=qz ⟨(uh HCH).below' hb,.inr ⟨13,by decide,by decide,rfl,by unfold inn;rw [bind_of (uh HTH),hc];rfl⟩⟩
    clear hb hc
    go_wp2_with fail
    go_ret2
    exact uh HE
   ·have HE:Hid (InnIs i w B rb rp g zs p v out most sv dv (.returned (.tuple #[.pointer (some ⟨cp,0,none⟩),.int .i64 0])) w2):=qz ⟨(uh HCH).below' hb,.inl ⟨cp,q,ownOf vs,rfl,by unfold inn;rw [bind_of (uh HTH),hc];rfl,ownOf_length vs,(uh HRT).below hb,COk.new (uh HRT) ⟨_,_,hcode,Nat.le_refl _,Nat.le_refl _⟩⟩⟩
    clear hb hc hcode
    go_wp2_with fail
    go_ret2
    exact uh HE
end
end
section
open Go.RowKit Mth Infl
def LnsIs (own:List Nat) (tot:Nat) (w:World) (B rb rp g:Nat) (zs:List Nat) (p:Nat) (v:Value) (out:List Nat) (most:Nat) (sv dv:Value) (e:Ending) (w':World):Prop :=
 Chg rb rp v w v w'∧((∃ (lv:Value) (q:Nat) (all:List Nat),e=.returned (.tuple #[lv,.int .i64 0])∧lens gg own tot tot [] (Infl.bitsOf zs) p=.ok all q∧all.length=tot∧(∀ z∈all,z≤15)∧RAt w' B rb rp g zs q v out most sv dv∧w'.ownsRow w.heap.size 3 1 lv all.length (all.map fun z:Nat=>iv (z:Int))) ∨
  (∃ b:Nat,b≠0∧b<100∧e=.returned (.tuple #[.slice none 0 0,.int .i64 (b:Int)])∧lens gg own tot tot [] (Infl.bitsOf zs) p=.bad b))
structure LnAt (own:List Nat) (tot:Nat) (w ws:World) (B rb rp g:Nat) (zs:List Nat) (p:Nat) (v:Value) (out:List Nat) (most:Nat) (sv dv:Value) (lv:Value) (all:List Nat) (f q:Nat):Prop where
 on:lens gg own tot tot [] (Infl.bitsOf zs) p=lens gg own tot f all (Infl.bitsOf zs) q
 fu:tot≤all.length+f
 le:∀ z∈all,z≤15
 rat:RAt ws B rb rp g zs q v out most sv dv
 chg:Chg rb rp v w v ws
 row:ws.ownsRow w.heap.size 3 1 lv all.length (all.map fun z:Nat=>iv (z:Int))
section
variable {rb rp:Nat} {v:Value} {w ws w1 w2 w':World} {B g p q most:Nat} {zs out:List Nat} {sv dv:Value}
theorem RAt.grown {r:Option Nat} (h:RAt ws B rb rp g zs p v out most sv dv) (hb:Below ws.heap.size ws w1) (hg:w1.grownBy w2 r) (hr:∀ k,r=some k→k≠rb∧k≠rp∧k≠g∧v.ownBlock≠some k):RAt w2 B rb rp g zs p v out most sv dv:=by
 have hs:=hb.size
 have keep:∀ k,k<ws.heap.size→r≠some k→w2.heap[k]?=ws.heap[k]?:=fun k hk hne=>by
  rw [hg.block k (by omega) (fun e=>hne e.symm),hb.block k hk]
 exact ⟨by rw [keep rb h.lt (fun e=>(hr rb e).1 rfl)];exact h.blk,h.rd.keep (keep rp h.rd.lt (fun e=>(hr rp e).2.1 rfl)) (keep g (heap_lt h.rd.row) (fun e=>(hr g e).2.2.1 rfl)),own_keep h.row (fun k e=>keep k (h.own e).2 (fun e'=>(hr k e').2.2.2 e)),h.small,h.lb,h.lp,h.lg,h.ne,h.ng,h.ol,by have:=hg.size;have:=h.hB;omega⟩
theorem Chg.grown {r:Option Nat} {v0:Value} {w0:World} (h:Chg rb rp v0 w0 v ws) (hb:Below ws.heap.size ws w1) (hg:w1.grownBy w2 r) (hr:∀ k,r=some k→w0.heap.size≤k):Chg rb rp v0 w0 v w2:=by
 have hs:=hb.size
 have h2:=h.size
 refine ⟨(hg.os.trans hb.os).trans h.os,(hg.tape.trans hb.tape).trans h.tape,(hg.output.trans hb.output).trans h.output,by have:=hg.size;omega,fun k k1 k2 k3 k4=>?_,h.lies⟩
 rw [hg.block k (by omega) (fun e=>by have:=hr k e.symm;omega),hb.block k (by omega)]
 exact h.keep k k1 k2 k3 k4
theorem own_slice {base n:Nat} {lv:Value} {xs:List Value} (h:w.ownsRow base 3 1 lv n xs):∃ a c,lv=.slice a n c∧n≤c∧(0<n→∃ b,a=some ⟨b,0,none⟩∧lv.ownBlock=some b):=by
 rcases h.2 with ⟨e,hn⟩ | ⟨g,c,cur,e,hb,hh,hle,_⟩
 ·exact ⟨none,0,by rw [e,hn],by omega,fun h0=>by omega⟩
 ·exact ⟨_,c,e,hle,fun _=>⟨g,rfl,by rw [e];rfl⟩⟩
theorem row_cell {base b:Nat} {lv:Value} {all:List Nat} (h:w.ownsRow base 3 1 lv all.length (all.map fun z:Nat=>iv (z:Int))) (hb:lv.ownBlock=some b) (j:Nat) (hj:j<all.length):w.cell? ⟨b,j,none⟩=some (.int .i64 (all.getD j 0:Int)):=by
 have:=h.cells hb j (iv (all.getD j 0:Int)) (by rw [List.getElem?_map,List.getElem?_eq_getElem hj,List.getD_eq_getElem?_getD,List.getElem?_eq_getElem hj];rfl)
 have e:(⟨b,0,none⟩:Addr).add j=⟨b,j,none⟩:=by by_cases hq:j=0 <;> simp [Addr.add,hq]
 rw [e] at this
 exact this
theorem room_made (w:World) (n:Nat) (hn:n≤65536):(Instr.makeSlice 45 (.int .i64 0) (.int .i64 (n:Int))).run Tryz.prog w=.ok (.slice (some ⟨w.heap.size,0,none⟩) 0 n) (w.alloc (.cells (icells .i64 n (fun _=>0)) 3)):=by
 obtain ⟨i0,hi,hz0,hz1,hz2⟩:=info_parts info3'
 have:=run_make (P:=Tryz.prog) w 45 3 i0 (.int .i64 0) Tryz.underlying45 hi hz0 .i64 .i64 0 (n:Int) (by omega) (by omega) (by rw [hz2];omega) (by omega)
 rw [hz1] at this
 rw [this]
 congr 3
 apply Array.ext (by simp [madeCells,icells])
 intro k k1 k2
 simp [icells,madeCells,Value.cells,Nat.mod_one]
theorem LnAt.start (own:List Nat) (tot:Nat) (ht:tot≤65536) (h:RAt w B rb rp g zs p v out most sv dv):LnAt own tot w (w.alloc (.cells (icells .i64 tot (fun _=>0)) 3)) B rb rp g zs p v out most sv dv (.slice (some ⟨w.heap.size,0,none⟩) 0 tot) [] tot p:=by
 have hb:Below w.heap.size w (w.alloc (.cells (icells .i64 tot (fun _=>0)) 3)):=(Below.refl _ _).alloc (Nat.le_refl _) _
 exact ⟨rfl,by omega,fun z hz=>by simp at hz,h.below hb,Chg.of_below _ _ _ hb,World.ownsRow_made w _ tot (Nat.le_refl _) (by unfold maxLen;omega) (by simp [icells])⟩
structure RpAt (w ws:World) (B rb rp g:Nat) (zs:List Nat) (q:Nat) (v:Value) (out:List Nat) (most:Nat) (sv dv:Value) (lv:Value) (all:List Nat) (a j:Nat):Prop where
 rat:RAt ws B rb rp g zs q v out most sv dv
 chg:Chg rb rp v w v ws
 row:ws.ownsRow w.heap.size 3 1 lv (all.length+j) ((all++List.replicate j a).map fun z:Nat=>iv (z:Int))
theorem RpAt.next {lv lv':Value} {all:List Nat} {a j:Nat} (h:RpAt w ws B rb rp g zs q v out most sv dv lv all a j) (hv:∀ k,v.ownBlock=some k→k<w.heap.size) (hB:B≤w.heap.size) (hb:Below ws.heap.size ws w1)
  (hown:w2.ownsRow w.heap.size 3 1 lv' (all.length+j+1) (((all++List.replicate j a).map fun z:Nat=>iv (z:Int))++[iv (a:Int)])) (hg:w1.grownBy w2 lv.ownBlock):RpAt w w2 B rb rp g zs q v out most sv dv lv' all a (j+1):=by
 have hr:∀ k,lv.ownBlock=some k→w.heap.size≤k:=fun k e=>(h.row.lt k e).1
 refine ⟨h.rat.grown hb hg (fun k e=>?_),h.chg.grown hb hg hr,?_⟩
 ·have h1:=hr k e
  have:=h.rat.lb
  have:=h.rat.lp
  have:=h.rat.lg
  exact ⟨by omega,by omega,by omega,fun e'=>by have:=hv k e';omega⟩
 ·rw [List.replicate_succ',← List.append_assoc,List.map_append]
  exact hown
theorem lengths_ok {own:List Nat} {cp tot:Nat} (h:RAt w B rb rp g zs p v out most sv dv) (hz:zs.length≤140737488355328) (hc:COk own w B cp v) (hown:own.length=19) (ht:tot≤316) :
  Calls Tryz.prog 136 #[.pointer (some ⟨rb,0,none⟩),.pointer (some ⟨cp,0,none⟩),.int .i64 (tot:Int)] w fun e w'=>LnsIs own tot w B rb rp g zs p v out most sv dv e w':=by
 obtain ⟨i0,hi,hz0,hz1,hz2⟩:=info_parts info3'
 have hm:=room_made w tot (by omega)
 have HST:=qz (LnAt.start own tot (by omega) h)
 have HV:Hid ((∀ j,v.ownBlock=some j→j<w.heap.size)∧B≤w.heap.size):=qz ⟨fun j e=>(h.own e).2,h.hB⟩
 have HLB:=qz (And.intro h.lb h.lp)
 have HC:=qz hc
 clear h hc
 go_enter Tryz.func136,Tryz.ntmps136
 go_wp2_with fail
 clear hm
 generalize w.alloc (.cells (icells .i64 tot (fun _=>0)) 3)=w1 at HST ⊢
 go_loopg [8] tot (fun gk l ws=>∃ (all:List Nat) (f q:Nat) (lv:Value),gk=tot - all.length∧all.length≤tot∧lv=l∧Hid (LnAt own tot w ws B rb rp g zs p v out most sv dv lv all f q))
 case atStart=>exact ⟨[],tot,p,_,by simp,by simp,rfl,HST⟩
 case round =>
  obtain ⟨all,f,q,lv,rfl,hle,rfl,hat⟩:=hrel
  clear HST
  obtain ⟨la,lc,hlv,hlc,hlb⟩:=own_slice (uh hat).row
  obtain ⟨L,hL⟩:∃ L,L=all.length:=⟨_,rfl⟩
  rw [← hL] at hlv hlc hlb hle
  by_cases hlt:L<tot
  ·have tlt:(L:Int)<(tot:Int):=by omega
   have c0:=(uh hat).rat.c0
   have HW:=qz (rword (uh hat).rat hz ((uh HC).chg (uh hat).chg (uh HLB).1 (uh HLB).2))
   obtain ⟨f',hf'⟩:∃ f',f=f'+1:=⟨f - 1,by have:=(uh hat).fu;omega⟩
   subst hf'
   have HON:Hid (lens gg own tot tot [] (Infl.bitsOf zs) p=((word gg own).bind fun s=>(stp all s).bind fun a=>if tot<all.length+a.2 then Rd.fail 11 else lens gg own tot f' (all++List.replicate a.2 a.1)) (Infl.bitsOf zs) q):=qz (by rw [(uh hat).on,lens_stp own tot f' all (by omega)])
   have HFU:Hid (tot≤L+(f'+1)):=qz (by have:=(uh hat).fu;omega)
   have HLE:=qz (uh hat).le
   have HRAT:=qz (uh hat).rat
   have HCHG:=qz (uh hat).chg
   have HROW:=qz (uh hat).row
   have HLV:=qz hlv
   have HLB2:=qz hlb
   have HL:=qz hL
   clear hat hL hlb hlc
   subst hlv
   go_wp2_with fail
   refine (uh HW).mono ?_
   rintro e w2 ⟨s,q1,b,rfl,r1,d1,g1⟩
   clear HW c0
   rcases g1 with ⟨rfl,g1,gs,_,_⟩ | ⟨gb,gb2,g1⟩
   ·have hs:s<19:=by omega
    have HROW2:Hid (w2.ownsRow w.heap.size 3 1 (.slice la L lc) all.length (all.map fun z:Nat=>iv (z:Int))):=qz (own_keep (uh HROW) (fun k e=>by
     have hk:=(uh HROW).lt k e
     have:=uh HV
     have:=r1.lb
     have:=r1.lp
     exact d1.keep k hk.2 (by omega) (by omega) (fun e'=>by have:=(uh HV).1 k e';omega)))
    have HR:=qz (repeat_ok s hs all (uh HLE) la lc (by have:=uh HL;omega) (fun h0=>by
     obtain ⟨b,e1,e2⟩:=uh HLB2 (by rw [uh HL];exact h0)
     refine ⟨b,e1,fun j hj=>row_cell (uh HROW2) e2 j hj,?_⟩
     have hk:=(uh HROW).lt b e2
     have:=uh HV
     have:=r1.lb
     have:=r1.lp
     exact ⟨by omega,by omega,fun e'=>by have:=(uh HV).1 b e';omega⟩) r1 hz)
    rw [← uh HL] at HR
    have HD1:=qz d1
    have HG1:=qz g1
    clear r1 d1 g1 gs HROW HRAT
    go_wp2_with fail
    refine (uh HR).mono ?_
    rintro e w3 ⟨d2,hrep⟩
    rcases hrep with ⟨a,n,q2,rfl,g2,hn1,hn2,ha,r2⟩ | ⟨b,a,n,gb,gb2,rfl,g2⟩
    ·have HD2:=qz ((uh HCHG).trans ((uh HD1).trans d2))
     have HROW3:Hid (w3.ownsRow w.heap.size 3 1 (.slice la L lc) all.length (all.map fun z:Nat=>iv (z:Int))):=qz (own_keep (uh HROW2) (fun k e=>by
      have hk:=(uh HROW2).lt k e
      have:=uh HV
      have:=r2.lb
      have:=r2.lp
      exact d2.keep k hk.2 (by omega) (by omega) (fun e'=>by have:=(uh HV).1 k e';omega)))
     by_cases hfit:tot<L+n
     ·have tfit:(tot:Int) - (L:Int)<(n:Int):=by omega
      have HE:Hid (LnsIs own tot w B rb rp g zs p v out most sv dv (.returned (.tuple #[.slice none 0 0,.int .i64 ((11:Nat):Int)])) w3):=qz ⟨uh HD2,.inr ⟨11,by decide,by decide,rfl,by rw [uh HON,bind_of (uh HG1),bind_of g2];simp only;rw [if_pos (by rw [← uh HL];exact hfit)];rfl⟩⟩
      clear d2 g2 r2 hfit HR
      go_wp2_with fail
      go_ret2
      exact uh HE
     ·have tfit:¬ (tot:Int) - (L:Int)<(n:Int):=by omega
      have HST2:Hid (RpAt w w3 B rb rp g zs q2 v out most sv dv (.slice la L lc) all a 0):=qz ⟨r2,uh HD2,by simpa using uh HROW3⟩
      have HON2:Hid (lens gg own tot tot [] (Infl.bitsOf zs) p=lens gg own tot f' (all++List.replicate n a) (Infl.bitsOf zs) q2):=qz (by rw [uh HON,bind_of (uh HG1),bind_of g2];simp only;rw [if_neg (by rw [← uh HL];exact hfit)])
      have hfit2:L+n≤tot:=by omega
      clear d2 g2 r2 hfit HR HON HROW2 HROW3
      go_wp2_with fail
      go_loopg [8,49] n (fun gk l c ws=>∃ (j:Nat) (lv:Value),gk=n - j∧j≤n∧lv=l∧c=.int .i64 (j:Int)∧Hid (RpAt w ws B rb rp g zs q2 v out most sv dv lv all a j))
      case atStart=>exact ⟨0,_,by omega,by omega,rfl,rfl,HST2⟩
      case round =>
       obtain ⟨j,lv,rfl,hjn,rfl,rfl,hat⟩:=hrel
       clear HST2
       by_cases hj:j<n
       ·have tj:(j:Int)<(n:Int):=by omega
        have HNEW:Hid (∀ (jj:Nat) u,[iv (a:Int)][jj]?=some u→(wr.alloc (.cells #[iv (a:Int)] 3)).cell? ((⟨wr.heap.size,0,none⟩:Addr).add jj)=some u):=qz (news_one _ _)
        have HOW:Hid ((wr.alloc (.cells #[iv (a:Int)] 3)).ownsRow w.heap.size 3 1 lv (L+j) ((all++List.replicate j a).map fun z:Nat=>iv (z:Int))):=qz (by rw [uh HL];exact (uh hat).row.alloc _)
        have hws:w.heap.size≤wr.heap.size:=(uh hat).chg.size
        go_wp2_with (at_builtin;go_must (refine wpList_append_lies _ rfl (.tmp 51) (.tmp 53) 45 rfl w.heap.size 3 i0 (.int .i64 0) 1 8 Tryz.underlying45 hi hz0 hz1 hz2 rfl (by decide) lv (L+j) ((all++List.replicate j a).map fun z:Nat=>iv (z:Int)) (by rfl) (uh HOW) ⟨wr.heap.size,0,none⟩ 1 1 [iv (a:Int)] (by rfl) rfl (uh HNEW) (by intro u hu;simp at hu;subst hu;rfl) (by decide) (by unfold maxLen;omega) (by omega) (by simp;omega) (wr.heap.size+1) (by simp) ?_;intro g' cap' w4 hown' hgrow hat' hglt;have HN:=qz ((uh hat).next (uh HV).1 (uh HV).2 ((Below.refl _ _).alloc (Nat.le_refl _) _) (by rw [← uh HL];exact hown') hgrow);clear hown' hgrow hat' hglt))
        go_roundg (n - (j+1))
        case measure=>omega
        case rel=>exact ⟨j+1,_,rfl,by omega,rfl,by go_num,HN⟩
       ·obtain rfl:j=n:=by omega
        have HN:Hid (LnAt own tot w wr B rb rp g zs p v out most sv dv lv (all++List.replicate j a) f' q2):=qz ⟨uh HON2,by rw [List.length_append,List.length_replicate,← uh HL];have:=uh HFU;omega,fun z hz=>by
         rw [List.mem_append] at hz
         rcases hz with hz | hz
         ·exact uh HLE z hz
         ·rw [List.eq_of_mem_replicate hz];exact ha,(uh hat).rat,(uh hat).chg,by rw [List.length_append,List.length_replicate];exact (uh hat).row⟩
        have hlen:(all++List.replicate j a).length=L+j:=by rw [List.length_append,List.length_replicate,← uh HL]
        have HLEN:=qz hlen
        clear hat hlen
        go_wp2_with fail
        go_roundg (tot - (L+j))
        case measure=>have:=uh HL;omega
        case rel=>exact ⟨_,f',q2,lv,by rw [uh HLEN],by rw [uh HLEN];exact hfit2,rfl,HN⟩
    ·have HE:Hid (LnsIs own tot w B rb rp g zs p v out most sv dv (.returned (.tuple #[.slice none 0 0,.int .i64 (b:Int)])) w3):=qz ⟨(uh HCHG).trans ((uh HD1).trans d2),.inr ⟨b,gb,gb2,rfl,by rw [uh HON,bind_of (uh HG1),bind_bad g2]⟩⟩
     have hb1:¬ (b:Int)=0:=by omega
     have hb2:((b:Int) == 0)=false:=by simp;omega
     clear d2 g2 gb gb2 HR
     go_wp2_with fail
     go_ret2
     exact uh HE
   ·have HE:Hid (LnsIs own tot w B rb rp g zs p v out most sv dv (.returned (.tuple #[.slice none 0 0,.int .i64 (b:Int)])) w2):=qz ⟨(uh HCHG).trans d1,.inr ⟨b,gb,gb2,rfl,by rw [uh HON,bind_bad g1]⟩⟩
    have hb1:¬ (b:Int)=0:=by omega
    have hb2:((b:Int) == 0)=false:=by simp;omega
    clear r1 d1 g1 gb gb2
    go_wp2_with fail
    go_ret2
    exact uh HE
  ·have hLt:L=tot:=by omega
   have HE:Hid (LnsIs own tot w B rb rp g zs p v out most sv dv (.returned (.tuple #[lv,.int .i64 0])) wr):=qz ⟨(uh hat).chg,.inl ⟨lv,q,all,rfl,by rw [(uh hat).on,lens_done own tot f all (by omega)];rfl,by omega,(uh hat).le,(uh hat).rat,(uh hat).row⟩⟩
   have tlt:¬ (L:Int)<(tot:Int):=by omega
   clear hat hlb hLt hL
   subst hlv
   go_wp2_with fail
   go_ret2
   exact uh HE
end
end
section
open Go.RowKit Mth Infl
theorem results_tmp4 {fn:Func} {t u v x:Tmp} (h:fn.results=#[.tmp t,.tmp u,.tmp v,.tmp x]) (tmps:Array Value) (P:Program) (w:World) :
  (results fn tmps).run P w=.ok (.tuple #[tmps.getD t undef,tmps.getD u undef,tmps.getD v undef,tmps.getD x undef]) w:=by
 simp [results,h]
def CntIs (w:World) (B rb rp g:Nat) (zs:List Nat) (p:Nat) (v:Value) (out:List Nat) (most:Nat) (sv dv:Value) (e:Ending) (w':World):Prop :=
 Chg rb rp v w v w'∧((∃ l d k q:Nat,e=.returned (.tuple #[.int .i64 (l:Int),.int .i64 (d:Int),.int .i64 (k:Int),.int .i64 0])∧cnt (Infl.bitsOf zs) p=.ok (l,d,k) q∧257≤l∧l≤286∧1≤d∧d≤30∧4≤k∧k≤19∧RAt w' B rb rp g zs q v out most sv dv) ∨
  (∃ b:Nat,b≠0∧b<100∧e=.returned (.tuple #[.int .i64 0,.int .i64 0,.int .i64 0,.int .i64 (b:Int)])∧cnt (Infl.bitsOf zs) p=.bad b))
section
variable {rb rp:Nat} {v:Value} {w w':World} {B g p q most:Nat} {zs out:List Nat} {sv dv:Value}
theorem rcounts_ok (h:RAt w B rb rp g zs p v out most sv dv) (hz:zs.length≤140737488355328) :
  Calls Tryz.prog 134 #[.pointer (some ⟨rb,0,none⟩)] w fun e w'=>CntIs w B rb rp g zs p v out most sv dv e w':=by
 have HG:=qz (rget 5 h hz (by decide))
 have c0:=h.c0
 clear h
 go_enter Tryz.func134,Tryz.ntmps134
 go_wp2_with fail
 refine wp_scope_on 0 rfl ?_
 go_wp2_with fail
 refine (uh HG).mono ?_
 rintro e w1 ⟨l,q1,b,rfl,r1,d1,g1⟩
 clear HG c0
 rcases g1 with ⟨rfl,g1,gl,_⟩ | ⟨rfl,rfl,g1⟩
 ·have HG:=qz (rget 5 r1 hz (by decide))
  have c0:=r1.c0
  have HD1:=qz d1
  have HG1:=qz g1
  have hl:l<32:=gl
  clear r1 d1 g1 gl
  go_wp2_with fail
  refine (uh HG).mono ?_
  rintro e w2 ⟨d,q2,b,rfl,r2,d2,g2⟩
  clear HG c0
  rcases g2 with ⟨rfl,g2,gd,_⟩ | ⟨rfl,rfl,g2⟩
  ·have HG:=qz (rget 4 r2 hz (by decide))
   have c0:=r2.c0
   have HD2:=qz ((uh HD1).trans d2)
   have HG2:=qz g2
   have hd:d<32:=gd
   clear r2 d2 g2 gd HD1
   go_wp2_with fail
   refine (uh HG).mono ?_
   rintro e w3 ⟨k,q3,b,rfl,r3,d3,g3⟩
   clear HG c0
   rcases g3 with ⟨rfl,g3,gk,_⟩ | ⟨rfl,rfl,g3⟩
   ·have HD3:=qz ((uh HD2).trans d3)
    have HG3:=qz g3
    have HR3:=qz r3
    have hk:k<16:=gk
    have v1:=conv_u64 l (by omega)
    have v2:=conv_u64 d (by omega)
    have v3:=conv_u64 k (by omega)
    clear r3 d3 g3 gk HD2
    by_cases hl2:l≤29
    ·have t1:(257:Int)+(l:Int)≤286:=by omega
     have t1b:decide ((257:Int)+(l:Int)≤286)=true:=by simp;omega
     by_cases hd2:d≤29
     ·have t2:(1:Int)+(d:Int)≤30:=by omega
      have t2b:decide ((1:Int)+(d:Int)≤30)=true:=by simp;omega
      have HE:Hid (CntIs w B rb rp g zs p v out most sv dv (.returned (.tuple #[.int .i64 (257+(l:Int)),.int .i64 (1+(d:Int)),.int .i64 (4+(k:Int)),.int .i64 0])) w3):=qz ⟨uh HD3,.inl ⟨l+257,d+1,k+4,q3,by rw [show ((l+257:Nat):Int)=257+(l:Int) from by omega,show ((d+1:Nat):Int)=1+(d:Int) from by omega,show ((k+4:Nat):Int)=4+(k:Int) from by omega],by unfold cnt;rw [bind_of (uh HG1),bind_of (uh HG2),bind_of (uh HG3),if_neg (by omega)];rfl,by omega,by omega,by omega,by omega,by omega,by omega,uh HR3⟩⟩
      clear HG1 HG2 HG3
      go_wp2_with fail
      refine jump_ret_of ?_
      refine bodyPost_ret (results_tmp4 rfl _ _ _) rfl ?_
      exact uh HE
     ·have t2:¬ (1:Int)+(d:Int)≤30:=by omega
      have t2b:decide ((1:Int)+(d:Int)≤30)=false:=by simp;omega
      have HE:Hid (CntIs w B rb rp g zs p v out most sv dv (.returned (.tuple #[.int .i64 0,.int .i64 0,.int .i64 0,.int .i64 ((11:Nat):Int)])) w3):=qz ⟨uh HD3,.inr ⟨11,by decide,by decide,rfl,by unfold cnt;rw [bind_of (uh HG1),bind_of (uh HG2),bind_of (uh HG3),if_pos (by omega)];rfl⟩⟩
      clear HG1 HG2 HG3
      go_wp2_with fail
      go_step3
      go_wp2_with fail
      refine jump_ret_of ?_
      refine bodyPost_ret (results_tmp4 rfl _ _ _) rfl ?_
      exact uh HE
    ·have t1:¬ (257:Int)+(l:Int)≤286:=by omega
     have t1b:decide ((257:Int)+(l:Int)≤286)=false:=by simp;omega
     have HE:Hid (CntIs w B rb rp g zs p v out most sv dv (.returned (.tuple #[.int .i64 0,.int .i64 0,.int .i64 0,.int .i64 ((11:Nat):Int)])) w3):=qz ⟨uh HD3,.inr ⟨11,by decide,by decide,rfl,by unfold cnt;rw [bind_of (uh HG1),bind_of (uh HG2),bind_of (uh HG3),if_pos (by omega)];rfl⟩⟩
     clear HG1 HG2 HG3
     go_wp2_with fail
     go_step3
     go_wp2_with fail
     refine jump_ret_of ?_
     refine bodyPost_ret (results_tmp4 rfl _ _ _) rfl ?_
     exact uh HE
   ·have HE:Hid (CntIs w B rb rp g zs p v out most sv dv (.returned (.tuple #[.int .i64 0,.int .i64 0,.int .i64 0,.int .i64 ((10:Nat):Int)])) w3):=qz ⟨(uh HD2).trans d3,.inr ⟨10,by decide,by decide,rfl,by unfold cnt;rw [bind_of (uh HG1),bind_of (uh HG2),bind_bad g3]⟩⟩
    clear r3 d3 g3
    go_wp2_with fail
    go_step3
    refine ⟨rfl,?_⟩
    go_wp2_with fail
    rw [Exit.noGoto_ret]
    refine bodyPost_ret (results_tmp4 rfl _ _ _) rfl ?_
    exact uh HE
  ·have HE:Hid (CntIs w B rb rp g zs p v out most sv dv (.returned (.tuple #[.int .i64 0,.int .i64 0,.int .i64 0,.int .i64 ((10:Nat):Int)])) w2):=qz ⟨(uh HD1).trans d2,.inr ⟨10,by decide,by decide,rfl,by unfold cnt;rw [bind_of (uh HG1),bind_bad g2]⟩⟩
   clear r2 d2 g2
   go_wp2_with fail
   go_step3
   refine ⟨rfl,?_⟩
   go_wp2_with fail
   rw [Exit.noGoto_ret]
   refine bodyPost_ret (results_tmp4 rfl _ _ _) rfl ?_
   exact uh HE
 ·have HE:Hid (CntIs w B rb rp g zs p v out most sv dv (.returned (.tuple #[.int .i64 0,.int .i64 0,.int .i64 0,.int .i64 ((10:Nat):Int)])) w1):=qz ⟨d1,.inr ⟨10,by decide,by decide,rfl,by unfold cnt;rw [bind_bad g1]⟩⟩
  clear r1 d1 g1
  go_wp2_with fail
  go_step3
  refine ⟨rfl,?_⟩
  go_wp2_with fail
  rw [Exit.noGoto_ret]
  refine bodyPost_ret (results_tmp4 rfl _ _ _) rfl ?_
  exact uh HE
end
end
end Go.Proofs.YtabeanealkopbaaGreat
