/- A part of the proof. -/
import Derived.Test.YtabeanealkopbaaGreatDtqI
import Derived.Laws.EntriesVeiled

set_option linter.unusedVariables false
set_option maxRecDepth 100000
set_option maxHeartbeats 24000000
namespace Go.Proofs.YtabeanealkopbaaGreat
namespace T6
open Go.RowKit Go.Maps
attribute [local go_sem ↓] wp_at_zero wp_at_succ
def w3n (zs:List Nat) (H W M s0:Nat) (tx:Value) (w:World) (e:Ending) (w':World):Prop :=
 e=.returned (.pointer (some ⟨H,0,none⟩))∧Below H w w'∧(w'.heap[H]?=some (.cells #[tx,.int .i64 (W:Int),.int .i64 (M:Int),.slice none 0 0,.int .i64 0] 123 (0,0)) ∨
  ∃ (N:Nat) (b:Nat→Nat) (gl lc:Nat),1≤N∧N≤4∧N≤lc∧(∀j,j<N→1≤s0*2^j∧s0*2^j≤8)∧s0*2^(N-1)≤M∧IdxAt zs H N (fun j=>s0*2^j) b (fun _=>.slice none 0 0) (fun j=>cnt zs.length (s0*2^j) 0) H gl lc W M 0 tx w')
theorem z6v {s0 k:Nat} (h1:1≤s0) (h:s0*2^k≤8):k≤3:=by
 refine Nat.le_of_not_lt fun hk=>?_
 have h2:2^4≤2^k:=Nat.pow_le_pow_right (by decide) hk
 have h3:1*2^k≤s0*2^k:=Nat.mul_le_mul_right _ h1
 omega
theorem x1g (zs:List Nat) (a:Option Addr) (L cap p W least M:Nat) (w:World) (hl:L≤100000000) (hp:p≤L) (h1:1≤least) (hlM:least≤M) (hM:M≤9223372036854775807) :
  Calls Tryz.prog 63 #[.slice a L cap,.int .i64 (p:Int),.int .i64 (W:Int),.int .i64 (least:Int),.int .i64 (M:Int)] w fun e w'=>w3n zs w.heap.size W M (min least 8) (.slice a L cap) w e w':=by
 obtain ⟨H,hH⟩:∃H,H=w.heap.size:=⟨_,rfl⟩
 rw [←hH]
 obtain ⟨s0,hs0⟩:∃s0,s0=min least 8:=⟨_,rfl⟩
 obtain ⟨mm,hmm⟩:∃mm,mm=min M 8:=⟨_,rfl⟩
 rw [←hs0]
 have n1:=z2y (A:=(least:Int)) (B:=(8:Int)) rfl rfl hs0
 have n2:=z2y (A:=(M:Int)) (B:=(8:Int)) rfl rfl hmm
 have hs1:1≤s0:=by omega
 have hsm:s0≤mm:=by omega
 have hm8:mm≤8:=by omega
 have hmM:mm≤M:=by omega
 obtain ⟨W0,hW0⟩:∃W0,W0=w.alloc (.cells #[.slice a L cap,.int .i64 (W:Int),.int .i64 (M:Int),.slice none 0 0,.int .i64 0] 123):=⟨_,rfl⟩
 have HN0:Hid (NewAt H W M s0 0 (.slice a L cap) (fun _=>0) (.slice none 0 0) w W0):=qz ⟨by rw [hW0,hH];exact heap_alloc_new _ _,World.ownsRow_nil _ _ _ _,fun j hj=>by omega,fun i j hi=>by omega,fun j hj=>by omega,by rw [hW0,hH];exact (Below.refl _ _).alloc (Nat.le_refl _) _⟩
 have hmk:=@run_makeMap Tryz.prog
 obtain ⟨i0,hii,hz0,hz1,hz2⟩:=info_parts w5y
 have HHW:=qz hH
 clear hs0 hmm hH
 by_cases hfew:L-p≤512
 ·have hfi:(L:Int)-(p:Int)≤512:=by omega
  clear hmk
  go_enter Tryz.func63,Tryz.ntmps63
  go_wp2_with fail
  rw [←hW0,←uh HHW]
  go_ret
  exact ⟨rfl,(uh HN0).bel,.inl (uh HN0).xb⟩
 ·have hfi:¬ (L:Int)-(p:Int)≤512:=by omega
  go_enter Tryz.func63,Tryz.ntmps63
  go_wp2_with fail
  rw [←hW0,←uh HHW]
  go_loopg [12] (40-s0) (fun gk d ws=>∃ (k z:Nat) (b:Nat→Nat) (v:Value),gk=40-z∧d=.int .i64 (z:Int)∧1≤z∧z≤16∧Hid (z=s0*2^k)∧Hid (∀j,j<k→s0*2^j≤mm)∧NewAt H W M s0 k (.slice a L cap) b v w ws)
  case atStart=>exact ⟨0,s0,_,_,rfl,rfl,hs1,by omega,qz (by simp),qz (fun j hj=>by omega),uh HN0⟩
  case round =>
   obtain ⟨k,z,b,v,rfl,rfl,hz1',hz16,HZ,HSM,hat⟩:=hrel
   clear HN0 hW0
   by_cases hzm:z≤mm
   ·have hzi:(z:Int)≤(mm:Int):=by omega
    have c3:=hat.x3
    have f3:=hat.f3
    have hHs:H<wr.heap.size:=z0b hat.xb
    have hk3:k≤3:=z6v hs1 (by rw [←uh HZ];omega)
    have HROW:=qz ((hat.row.alloc (.map #[] 0)).alloc (.cells #[.int .i64 (z:Int),.map (some wr.heap.size),.slice none 0 0] 162))
    have HNEW:Hid (∀ (j:Nat) u,[Value.int .i64 (z:Int),.map (some wr.heap.size),.slice none 0 0][j]?=some u→((wr.alloc (.map #[] 0)).alloc (.cells #[.int .i64 (z:Int),.map (some wr.heap.size),.slice none 0 0] 162)).cell? ((⟨wr.heap.size+1,0,none⟩:Addr).add j)=some u):=qz fun j u hj=>by
     have ea:(⟨wr.heap.size+1,0,none⟩:Addr).add j=⟨wr.heap.size+1,j,none⟩:=by by_cases hq:j=0<;>simp [Addr.add,hq]
     rw [ea]
     simp only [World.cell?]
     rw [z0k,if_pos (by simp)]
     simpa using hj
    have HNX:Hid (∀v' w2,w2.ownsRow (H+1) 162 3 v' (k+1) (lcs s0 b k++[.int .i64 (z:Int),.map (some wr.heap.size),.slice none 0 0])→((wr.alloc (.map #[] 0)).alloc (.cells #[.int .i64 (z:Int),.map (some wr.heap.size),.slice none 0 0] 162)).grownBy w2 v.ownBlock→NewAt H W M s0 (k+1) (.slice a L cap) (upf b k wr.heap.size) v' w (w2.setCell ⟨H,3,none⟩ v')∧(∃u,w2.cell? ⟨H,3,none⟩=some u)∧w2.frozen? ⟨H,3,none⟩=false∧∃va vn vc,v'=.slice va vn vc):=qz fun v' w2 h2 h3=>by
     have h4:=hat.next (v':=v') (w2:=w2) hHs (by rw [←uh HZ];exact h2) (by rw [←uh HZ];exact h3)
     have hvH:v.ownBlock≠some H:=fun e=>by have:=(y3y hat.row e).1;omega
     have hxb2:w2.heap[H]?=some (.cells #[.slice a L cap,.int .i64 (W:Int),.int .i64 (M:Int),v,.int .i64 0] 123 (0,0)):=by
      rw [h3.block H (by simp;omega) (fun e=>hvH e.symm),Below.heap_alloc _ _ _ (by simp;omega),Below.heap_alloc _ _ _ hHs]
      exact hat.xb
     refine ⟨h4,⟨v,by simp [World.cell?,hxb2]⟩,by simp [World.frozen?,hxb2],?_⟩
     rcases h2.2 with ⟨e,_⟩|⟨g,cp,cur,e,_⟩
     ·exact ⟨_,_,_,e⟩
     ·exact ⟨_,_,_,e⟩
    have HZ2:Hid (2*z=s0*2^(k+1)):=qz (by rw [uh HZ,Nat.pow_succ,Nat.mul_comm 2,Nat.mul_assoc])
    have HSM2:Hid (∀j,j<k+1→s0*2^j≤mm):=qz fun j hj=>by
     by_cases e:j=k
     ·rw [e,←uh HZ];exact hzm
     ·exact uh HSM j (by omega)
    obtain ⟨z2,hz2'⟩:∃z2:Nat,(z:Int)*2=(z2:Int):=⟨2*z,by omega⟩
    have hwz:IntKind.i64.wrap (z2:Int)=(z2:Int):=IntWalk.i64_in _ (by omega)
    obtain ⟨va,vn,vc,hvv⟩:∃va vn vc,v=.slice va vn vc:=by
     rcases hat.row.2 with ⟨e,_⟩|⟨g,cp,cur,e,_⟩
     ·exact ⟨_,_,_,e⟩
     ·exact ⟨_,_,_,e⟩
    clear hat HZ HSM
    subst hvv
    go_upto_region 7 with fail
    go_wp2_with (at_builtin;go_must (refine wpList_append_own _ rfl _ _ 121 rfl (H+1) 162 i0 _ 3 40 Tryz.underlying121 hii hz0 hz1 hz2 rfl (by decide) (.slice va vn vc) k (lcs s0 b k) (by rfl) (uh HROW) ⟨wr.heap.size+1,0,none⟩ 1 1 [.int .i64 (z:Int),.map (some wr.heap.size),.slice none 0 0] (by rfl) rfl (uh HNEW) (by intro u hu;simp at hu;rcases hu with rfl|rfl|rfl<;>rfl) (by unfold maxLen;omega) (by omega) (by simp;omega) ?_;intro v' w2 hown hgrow hnil;obtain ⟨hx1,⟨u,hx2⟩,hx3,va',vn',vc',hv'⟩:=uh HNX _ _ hown hgrow;subst hv';have HX1:=qz hx1;clear hown hgrow hnil hx1 HNX HROW HNEW))
    go_roundg (40-z2)
    case measure=>omega
    case rel=>exact ⟨k+1,z2,_,_,rfl,rfl,by omega,by omega,qz (by rw [←uh HZ2];omega),HSM2,uh HX1⟩
   ·have hzi:¬ (z:Int)≤(mm:Int):=by omega
    have hk1:1≤k:=by
     rcases Nat.eq_zero_or_pos k with h|h
     ·have:=uh HZ
      rw [h] at this
      simp at this
      omega
     ·exact h
    have HE:Hid (w3n zs H W M s0 (.slice a L cap) w (.returned (.pointer (some ⟨H,0,none⟩))) wr):=qz (by
     obtain ⟨gl,lc,hlc,_,hix⟩:=hat.idx (zs:=zs) hk1
     refine ⟨rfl,hat.bel,.inr ⟨k,b,gl,lc,hk1,?_,hlc,fun j hj=>⟨?_,?_⟩,?_,hix⟩⟩
     ·have h3:=uh HSM (k-1) (by omega)
      have:=z6v hs1 (show s0*2^(k-1)≤8 by omega)
      omega
     ·have:0<2^j:=Nat.two_pow_pos j
      exact Nat.mul_pos hs1 this
     ·have:=uh HSM j hj;omega
     ·have:=uh HSM (k-1) (by omega);omega)
    clear hat HZ HSM
    go_wp2_with fail
    go_ret
    exact uh HE
theorem x0c {a b x:Nat} {A B:Int} (hA:A=(a:Int)) (hB:B=(b:Int)) (h:x=max a b) (w:World):(Builtin.max_ #[3,3] 3 #[.int .i64 A,.int .i64 B]).run Tryz.prog w=.ok (.int .i64 (x:Int)) w:=by
 rw [run_max_int2,hA,hB]
 congr 2
 split<;>omega
def w3o (W p:Nat) (w:World) (e:Ending) (w':World):Prop:=(e=.returned (.bool true)∧W<p∨e=.returned (.bool false))∧w'=w.drew
theorem w6f (gx p W:Nat) (w:World) (hp:p≤100000000) (hW:W≤9223372036854775807) (c1:w.cell? ⟨gx,1,none⟩=some (.int .i64 (W:Int))) :
  Calls Tryz.prog 64 #[.pointer (some ⟨gx,0,none⟩),.int .i64 (p:Int)] w fun e w'=>w3o W p w e w':=by
 obtain ⟨x,hx⟩:∃x,x=max W 65536:=⟨_,rfl⟩
 have m1:=x0c (A:=(W:Int)) (B:=(65536:Int)) rfl rfl hx
 obtain ⟨df,hdf⟩:∃df:Int,(p:Int)-(W:Int)=df:=⟨_,rfl⟩
 have hwd:IntKind.i64.wrap df=df:=IntWalk.i64_in _ (by omega)
 by_cases hlt:(x:Int)<df
 ·have HE:Hid (w3o W p w (.returned (.bool true)) w.drew):=qz ⟨.inl ⟨rfl,by omega⟩,rfl⟩
  clear hx
  go_enter Tryz.func64,Tryz.ntmps64
  go_upto_region 1 with fail
  refine wp_region_noPanic ?_
  refine wp_region_held_drew (S:=fun y=>y.cell? ⟨gx,1,none⟩=some (.int .i64 (W:Int))) (by kernel_rfl) c1 (fun hHeld=>?_)
  refine hT 0 5 rfl rfl hHeld nPp (v:=?_) (fun x' hSx=>?_) ?_
  rotate_left 1
  ·go_simp<;>with_reducible rfl
  simp only [sA,sB]
  refine hT 1 6 rfl rfl hHeld nPp (v:=?_) (fun x' hSx=>?_) ?_
  rotate_left 1
  ·go_simp<;>with_reducible rfl
  simp only [sA,sB]
  refine hT 2 7 rfl rfl hHeld nPp (v:=?_) (fun x' hSx=>?_) ?_
  rotate_left 1
  ·go_simp<;>with_reducible rfl
  simp only [sA,sB]
  refine hT 3 8 rfl rfl hHeld nPp (v:=?_) (fun x' hSx=>?_) ?_
  rotate_left 1
  ·go_simp<;>with_reducible rfl
  simp only [sA,sB]
  refine hT 4 9 rfl rfl hHeld nPp (v:=?_) (fun x' hSx=>?_) ?_
  rotate_left 1
  ·go_simp<;>with_reducible rfl
  simp only [sA,sB]
  refine hT 5 10 rfl rfl hHeld nPp (v:=?_) (fun x' hSx=>?_) ?_
  rotate_left 1
  ·go_simp<;>with_reducible rfl
  simp only [sA,sB]
  refine hT 6 11 rfl rfl hHeld nPp (v:=?_) (fun x' hSx=>?_) ?_
  rotate_left 1
  ·go_simp<;>with_reducible rfl
  simp only [sA,sB]
  refine hT 7 12 rfl rfl hHeld nPp (v:=?_) (fun x' hSx=>?_) ?_
  rotate_left 1
  ·go_simp<;>with_reducible rfl
  simp only [sA,sB]
  refine hT 8 13 rfl rfl hHeld nPp (v:=?_) (fun x' hSx=>?_) ?_
  rotate_left 1
  ·go_simp<;>with_reducible rfl
  simp only [sA,sB]
  refine hT 9 14 rfl rfl hHeld nPp (v:=?_) (fun x' hSx=>?_) ?_
  rotate_left 1
  ·go_simp<;>with_reducible rfl
  simp only [sA,sB]
  refine hT 10 15 rfl rfl hHeld nPp (v:=?_) (fun x' hSx=>?_) ?_
  rotate_left 1
  ·go_simp<;>with_reducible rfl
  simp only [sA,sB]
  refine hT 11 16 rfl rfl hHeld nPp (v:=?_) (fun x' hSx=>?_) ?_
  rotate_left 1
  ·go_simp<;>with_reducible rfl
  simp only [sA,sB]
  refine hT 12 4 rfl rfl hHeld nPp (v:=?_) (fun x' hSx=>?_) ?_
  rotate_left 1
  ·go_simp<;>with_reducible rfl
  simp only [sA,sB]
  refine dN ?_
  go_wp2_with fail
  go_ret
  exact uh HE
 ·have HE:Hid (w3o W p w (.returned (.bool false)) w.drew):=qz ⟨.inr rfl,rfl⟩
  clear hx
  go_enter Tryz.func64,Tryz.ntmps64
  go_upto_region 1 with fail
  refine wp_region_noPanic ?_
  refine wp_region_held_drew (S:=fun y=>y.cell? ⟨gx,1,none⟩=some (.int .i64 (W:Int))) (by kernel_rfl) c1 (fun hHeld=>?_)
  refine hT 0 5 rfl rfl hHeld nPp (v:=?_) (fun x' hSx=>?_) ?_
  rotate_left 1
  ·go_simp<;>with_reducible rfl
  simp only [sA,sB]
  refine hT 1 6 rfl rfl hHeld nPp (v:=?_) (fun x' hSx=>?_) ?_
  rotate_left 1
  ·go_simp<;>with_reducible rfl
  simp only [sA,sB]
  refine hT 2 7 rfl rfl hHeld nPp (v:=?_) (fun x' hSx=>?_) ?_
  rotate_left 1
  ·go_simp<;>with_reducible rfl
  simp only [sA,sB]
  refine hT 3 8 rfl rfl hHeld nPp (v:=?_) (fun x' hSx=>?_) ?_
  rotate_left 1
  ·go_simp<;>with_reducible rfl
  simp only [sA,sB]
  refine hT 4 9 rfl rfl hHeld nPp (v:=?_) (fun x' hSx=>?_) ?_
  rotate_left 1
  ·go_simp<;>with_reducible rfl
  simp only [sA,sB]
  refine hT 5 10 rfl rfl hHeld nPp (v:=?_) (fun x' hSx=>?_) ?_
  rotate_left 1
  ·go_simp<;>with_reducible rfl
  simp only [sA,sB]
  refine hT 6 11 rfl rfl hHeld nPp (v:=?_) (fun x' hSx=>?_) ?_
  rotate_left 1
  ·go_simp<;>with_reducible rfl
  simp only [sA,sB]
  refine hT 7 12 rfl rfl hHeld nPp (v:=?_) (fun x' hSx=>?_) ?_
  rotate_left 1
  ·go_simp<;>with_reducible rfl
  simp only [sA,sB]
  refine hT 8 13 rfl rfl hHeld nPp (v:=?_) (fun x' hSx=>?_) ?_
  rotate_left 1
  ·go_simp<;>with_reducible rfl
  simp only [sA,sB]
  refine hT 9 14 rfl rfl hHeld nPp (v:=?_) (fun x' hSx=>?_) ?_
  rotate_left 1
  ·go_simp<;>with_reducible rfl
  simp only [sA,sB]
  refine hT 10 15 rfl rfl hHeld nPp (v:=?_) (fun x' hSx=>?_) ?_
  rotate_left 1
  ·go_simp<;>with_reducible rfl
  simp only [sA,sB]
  refine hT 11 16 rfl rfl hHeld nPp (v:=?_) (fun x' hSx=>?_) ?_
  rotate_left 1
  ·go_simp<;>with_reducible rfl
  simp only [sA,sB]
  refine hT 12 4 rfl rfl hHeld nPp (v:=?_) (fun x' hSx=>?_) ?_
  rotate_left 1
  ·go_simp<;>with_reducible rfl
  simp only [sA,sB]
  refine dN ?_
  go_wp2_with fail
  go_ret
  exact uh HE
end T6
namespace T6
theorem x8q (z:Nat→Nat) (p d:Nat):∀m,∃c,c≤m∧Eqs z p d c∧(c<m→¬Eqs z p d (c+1))
 | 0=>⟨0,Nat.le_refl _,fun i h=>by omega,fun h=>by omega⟩
 | m+1=>by
  obtain ⟨c,h1,h2,h3⟩:=x8q z p d m
  by_cases e:c=m
  ·subst e
   by_cases hc:z (p+c)=z (p+c-d)
   ·refine ⟨c+1,Nat.le_refl _,fun i hi=>?_,fun h=>by omega⟩
    by_cases e2:i=c
    ·subst e2;exact hc
    ·exact h2 i (by omega)
   ·exact ⟨c,by omega,h2,fun _ h=>hc (h c (by omega))⟩
  ·exact ⟨c,by omega,h2,fun _=>h3 (by omega)⟩
theorem IsBest.has (z:Nat→Nat) (p m:Nat):∀w,∃n d,IsBest z p w m n d
 | 0=>⟨0,0,Nat.zero_le _,.inl ⟨rfl,rfl⟩,fun _ d' h1 h2=>by omega⟩
 | w+1=>by
  obtain ⟨n,d,h1,h2,h3⟩:=IsBest.has z p m w
  obtain ⟨c,k1,k2,k3⟩:=x8q z p (w+1) m
  by_cases hc:n<c
  ·refine ⟨c,w+1,k1,.inr ⟨by omega,by omega,Nat.le_refl _,k2,fun d' e1 e2 he=>?_⟩,fun hlt d' e1 e2 he=>?_⟩
   ·exact h3 (by omega) d' e1 (by omega) (he.mono (by omega))
   ·by_cases e:d'=w+1
    ·subst e;exact k3 hlt he
    ·exact h3 (by omega) d' e1 (by omega) (he.mono (by omega))
  ·refine ⟨n,d,h1,?_,fun hlt d' e1 e2 he=>?_⟩
   ·rcases h2 with e|⟨a1,a2,a3,a4,a5⟩
    ·exact .inl e
    ·exact .inr ⟨a1,a2,by omega,a4,a5⟩
   ·by_cases e:d'=w+1
    ·subst e
     exact k3 (by omega) (he.mono (by omega))
    ·exact h3 hlt d' e1 (by omega) he
def z8b (zs:List Nat) (W least M p:Nat) (t:Tok) (q:Nat):Prop :=
 ∃n d:Nat,IsBest (zf zs) p (min p W) (min M (zs.length-p)) n d∧((least≤n∧t=⟨n,d,0⟩∧q=p+n)∨(n<least∧t=⟨0,0,zs.getD p 0⟩∧q=p+1))
theorem z8b.eq {zs:List Nat} {W least M p q q':Nat} {t t':Tok} (h:z8b zs W least M p t q) (h':z8b zs W least M p t' q'):t=t'∧q=q':=by
 obtain ⟨n,d,hb,h⟩:=h
 obtain ⟨n',d',hb',h'⟩:=h'
 obtain ⟨rfl,rfl⟩:=hb.eq hb'
 rcases h with ⟨a1,rfl,rfl⟩|⟨a1,rfl,rfl⟩<;>rcases h' with ⟨b1,rfl,rfl⟩|⟨b1,rfl,rfl⟩
 ·exact ⟨rfl,rfl⟩
 ·omega
 ·omega
 ·exact ⟨rfl,rfl⟩
theorem z8b.le {zs:List Nat} {W least M p q:Nat} {t:Tok} (h:z8b zs W least M p t q) (hp:p<zs.length) (hl:1≤least):p<q∧q≤zs.length:=by
 obtain ⟨n,d,hb,h⟩:=h
 have:=hb.le
 rcases h with ⟨a1,rfl,rfl⟩|⟨a1,rfl,rfl⟩<;>omega
inductive Parsed (zs:List Nat) (W least M p:Nat):List Tok→Nat→Prop
 | nil:Parsed zs W least M p [] p
 | snoc {ts:List Tok} {q:Nat} {t:Tok} {q':Nat} (h:Parsed zs W least M p ts q) (hq:q<zs.length) (ht:z8b zs W least M q t q'):Parsed zs W least M p (ts++[t]) q'
theorem Parsed.inv {zs:List Nat} {W least M p q':Nat} {l:List Tok} (h:Parsed zs W least M p l q'):(l=[]∧q'=p)∨∃ts t q,l=ts++[t]∧Parsed zs W least M p ts q∧q<zs.length∧z8b zs W least M q t q':=by
 cases h with
 | nil=>exact .inl ⟨rfl,rfl⟩
 | snoc h hq ht=>exact .inr ⟨_,_,_,rfl,h,hq,ht⟩
theorem Parsed.len {zs:List Nat} {W least M p q:Nat} {l:List Tok} (hl:1≤least) (hp:p≤zs.length) (h:Parsed zs W least M p l q):l.length+p≤q∧q≤zs.length:=by
 induction h with
 | nil=>simp;exact hp
 | snoc h hq ht ih =>
  have:=ht.le hq hl
  simp
  omega
theorem Parsed.fn {zs:List Nat} {W least M p q q':Nat} {l l':List Tok} (h:Parsed zs W least M p l q):Parsed zs W least M p l' q'→l.length=l'.length→l=l'∧q=q':=by
 induction h generalizing l' q' with
 | nil =>
  intro h' e
  rcases h'.inv with ⟨rfl,rfl⟩|⟨ts,t,q,rfl,_⟩
  ·exact ⟨rfl,rfl⟩
  ·simp at e
 | snoc h hq ht ih =>
  intro h' e
  rcases h'.inv with ⟨rfl,rfl⟩|⟨ts2,t2,q2,rfl,h2,hq2,ht2⟩
  ·simp at e
  ·obtain ⟨rfl,rfl⟩:=ih h2 (by simpa using e)
   obtain ⟨rfl,rfl⟩:=ht.eq ht2
   exact ⟨rfl,rfl⟩
theorem Parsed.pre {zs:List Nat} {W least M p q:Nat} {l:List Tok} (h:Parsed zs W least M p l q):∀k,k<l.length→∃qk,Parsed zs W least M p (l.take k) qk∧qk<zs.length:=by
 induction h with
 | nil=>intro k hk;simp at hk
 | @snoc ts q t q' h hq ht ih =>
  intro k hk
  simp at hk
  by_cases e:k=ts.length
  ·subst e
   refine ⟨q,?_,hq⟩
   simpa using h
  ·obtain ⟨qk,h1,h2⟩:=ih k (by omega)
   refine ⟨qk,?_,h2⟩
   rw [List.take_append_of_le_length (by omega)]
   exact h1
theorem Parsed.eq {zs:List Nat} {W least M p:Nat} {l l':List Tok} (h:Parsed zs W least M p l zs.length) (h':Parsed zs W least M p l' zs.length):l=l':=by
 have key:∀{a b:List Tok},Parsed zs W least M p a zs.length→Parsed zs W least M p b zs.length→¬a.length<b.length:=fun {a b} ha hb hlt=>by
  obtain ⟨qk,h1,h2⟩:=hb.pre a.length hlt
  have:=(ha.fn h1 (by simp;omega)).2
  omega
 exact (h.fn h' (Nat.le_antisymm (Nat.le_of_not_lt (key h' h)) (Nat.le_of_not_lt (key h h')))).1
theorem w3m {zs:List Nat} {o p W least M s0 n d:Nat} (hl:1≤least) (hs0:s0≤least) (hs1:1≤s0) (ho:o+p<zs.length) (hwin:o=0∨W≤p)
  (h:IsBest (zf (zs.drop o)) p (min p W) (min M ((zs.drop o).length-p)) n d∨(n=0∧d=0∧(z4v (zf (zs.drop o)) p (min p W) s0∨(zs.drop o).length<p+s0))) :
  (n<least→z8b zs W least M (o+p) ⟨0,0,(zs.drop o).getD p 0⟩ (o+p+1))∧(¬n<least→z8b zs W least M (o+p) ⟨n,d,0⟩ (o+p+n)∧1≤n∧p+n≤(zs.drop o).length):=by
 have hlen:(zs.drop o).length=zs.length-o:=by simp
 have hmin:min (o+p) W=min p W:=by rcases hwin with h|h<;>omega
 have hm:min M (zs.length-(o+p))=min M ((zs.drop o).length-p):=by rw [hlen,Nat.sub_sub]
 have hg:∀i,(zs.drop o).getD i 0=zs.getD (o+i) 0:=fun i=>by simp [List.getD_eq_getElem?_getD]
 have sh:∀{n d:Nat},IsBest (zf (zs.drop o)) p (min p W) (min M ((zs.drop o).length-p)) n d→IsBest (zf zs) (o+p) (min (o+p) W) (min M (zs.length-(o+p))) n d:=fun {n d} hb=>by
  rw [hmin,hm]
  exact hb.shift (by omega) (fun i _=>hg i)
 refine ⟨fun hn=>?_,fun hn=>?_⟩
 ·rw [hg]
  rcases h with hb|⟨rfl,rfl,hno⟩
  ·exact ⟨n,d,sh hb,.inr ⟨hn,rfl,rfl⟩⟩
  ·obtain ⟨n',d',hb⟩:=IsBest.has (zf (zs.drop o)) p (min M ((zs.drop o).length-p)) (min p W)
   refine ⟨n',d',sh hb,.inr ⟨?_,rfl,rfl⟩⟩
   rcases hno with hno|hno
   ·have:=hno.short hs1 hb
    omega
   ·have:=hb.le
    omega
 ·rcases h with hb|⟨rfl,rfl,_⟩
  ·have:=hb.le
   exact ⟨⟨n,d,sh hb,.inl ⟨by omega,rfl,rfl⟩⟩,by omega,by omega⟩
  ·omega
end T6
namespace T6
open Go.RowKit
attribute [local go_sem ↓] wp_at_zero wp_at_succ
end T6
namespace T6
open Go.RowKit
attribute [local go_sem ↓] wp_at_zero wp_at_succ
end T6
namespace T6
open Go.RowKit
attribute [local go_sem ↓] wp_at_zero wp_at_succ
end T6
namespace T6
open Go.RowKit
def z1l:List Tok→List Value
 | []=>[]
 | t :: ts=>.int .i64 t.n :: .int .i64 t.d :: .int .u8 (t.b:Int) :: z1l ts
theorem z9f:∀ts:List Tok,(z1l ts).length=ts.length*3
 | []=>rfl
 | t :: ts=>by simp [z1l,z9f ts];omega
theorem z9e:∀a b:List Tok,z1l (a++b)=z1l a++z1l b
 | [],_=>rfl
 | t :: ts,b=>by simp [z1l,z9e ts b]
theorem x4b (ts:List Tok):∀u∈z1l ts,u.oneCell'=true:=by
 induction ts with
 | nil=>intro u hu;simp [z1l] at hu
 | cons t ts ih =>
  intro u hu
  simp only [z1l,List.mem_cons] at hu
  rcases hu with rfl|rfl|rfl|hu
  ·rfl
  ·rfl
  ·rfl
  ·exact ih u hu
def z6k (w:World) (a:Option Addr) (cap:Nat) (ts:List Tok):Prop:=(a=none∧cap=0∧ts=[])∨∃ad,a=some ad∧ts.length≤cap∧∀ (j:Nat) u,(z1l ts)[j]?=some u→w.cell? (ad.add j)=some u
theorem z1m {w:World} {ops:Array Oper} {rest:List Oper} {o:Oper} {a:Act} {Q:Exit→Act→World→Prop} (hgd:o.guard=none) (s x:Operand)
  (ho:o.op=.call { callee:=.builtin .append,args:=#[s,x],argTypes:=#[46,46] })
  (base:Nat) (v:Value) (n:Nat) (xs:List Tok) (hs:a.eval s=v) (hown:w.ownsRow base 76 3 v n (z1l xs))
  (sa:Option Addr) (m c:Nat) (zs:List Tok) (hm:m=zs.length) (hx:a.eval x=.slice sa m c) (hr:z6k w sa c zs) (h63:(n+m)*24≤140737488355328) (hbase:base≤w.heap.size)
  (h:∀v' w',w'.ownsRow base 76 3 v' (n+m) (z1l (xs++zs))→w.grownBy w' v.ownBlock→wpList Tryz.prog ops Q rest (a.put o.dst v') w'):wpList Tryz.prog ops Q (o :: rest) a w:=by
 obtain ⟨i0,hii,hz0,hz1,hz2⟩:=info_parts w5t
 rcases hr with ⟨rfl,rfl,rfl⟩|⟨ad,rfl,hl,hc⟩
 ·obtain rfl:m=0:=hm
  exact wpList_append_own_none hgd s x 46 ho base 76 i0 3 Tryz.underlying46 hii v n (z1l xs) hs hown hx (h v w (by simpa using hown) (World.grownBy.refl _ _))
 ·exact wpList_append_own (w:=w) hgd s x 46 ho base 76 i0 _ 3 24 Tryz.underlying46 hii hz0 hz1 hz2 rfl (by decide) v n (z1l xs) hs hown ad m c (z1l zs) hx (by rw [z9f,hm]) hc
   (x4b _) (by unfold maxLen;omega) h63 hbase (fun v' w' h1 h2 h3=>h v' w' (by rw [z9e];exact h1) h2)
end T6
namespace T6
open Go.RowKit Go.Maps
def XAt (zl:List Nat) (H0 W M s0 gx p:Nat) (tx:Value) (ws:World):Prop :=
 ws.heap[gx]?=some (.cells #[tx,.int .i64 (W:Int),.int .i64 (M:Int),.slice none 0 0,.int .i64 0] 123 (0,0)) ∨
 ∃ (B f N:Nat) (b:Nat→Nat) (v:Nat→Value) (gl lc:Nat),H0≤B∧B≤ws.heap.size∧f≤p∧1≤N∧N≤4∧N≤lc∧(∀j,j<N→1≤s0*2^j∧s0*2^j≤8)∧s0*2^(N-1)≤M ∧
  IdxAt zl B N (fun j=>s0*2^j) b v (fun j=>cnt zl.length (s0*2^j) f) gx gl lc W M f tx ws
theorem XAt.c0 {zl:List Nat} {H0 W M s0 gx p:Nat} {tx:Value} {ws:World} (h:XAt zl H0 W M s0 gx p tx ws):ws.cell? ⟨gx,0,none⟩=some tx:=by
 rcases h with h|⟨B,f,N,b,v,gl,lc,_,_,_,_,_,_,_,_,h⟩
 ·simp [World.cell?,h]
 ·exact h.x0
theorem XAt.c1 {zl:List Nat} {H0 W M s0 gx p:Nat} {tx:Value} {ws:World} (h:XAt zl H0 W M s0 gx p tx ws):ws.cell? ⟨gx,1,none⟩=some (.int .i64 (W:Int)):=by
 rcases h with h|⟨B,f,N,b,v,gl,lc,_,_,_,_,_,_,_,_,h⟩
 ·simp [World.cell?,h]
 ·exact h.x1
theorem XAt.mono {zl:List Nat} {H0 W M s0 gx p q:Nat} {tx:Value} {ws:World} (h:XAt zl H0 W M s0 gx p tx ws) (hq:p≤q):XAt zl H0 W M s0 gx q tx ws:=by
 rcases h with h|⟨B,f,N,b,v,gl,lc,h1,h2,h3,h⟩
 ·exact .inl h
 ·exact .inr ⟨B,f,N,b,v,gl,lc,h1,h2,by omega,h⟩
theorem XAt.keep {zl:List Nat} {H0 W M s0 gx p:Nat} {tx:Value} {ws w':World} (h:XAt zl H0 W M s0 gx p tx ws) (hs:ws.heap.size≤w'.heap.size) (hk:∀x,x<ws.heap.size→(∀cs f,ws.heap[x]?≠some (.cells cs 76 f))→w'.heap[x]?=ws.heap[x]?):XAt zl H0 W M s0 gx p tx w':=by
 have kc:∀ (x:Nat) (cs:Array Value) (t:TypeId) (f:Nat × Nat),ws.heap[x]?=some (.cells cs t f)→t≠76→w'.heap[x]?=ws.heap[x]?:=fun x cs t f hx ht=>hk x (z0b hx) (fun cs' f' e=>by
  rw [hx] at e
  injection e with e
  injection e with _ e _
  exact ht e)
 rcases h with h|⟨B,f,N,b,v,gl,lc,h1,h2,h3,h4,h5,h6,h7,h8,h⟩
 ·exact .inl (by rw [kc gx _ _ _ h (by decide)];exact h)
 ·refine .inr ⟨B,f,N,b,v,gl,lc,h1,by omega,h3,h4,h5,h6,h7,h8,?_,?_,h.xB⟩
  ·rw [kc gx _ _ _ h.xb (by decide)];exact h.xb
  ·obtain ⟨cs,hcs⟩:=h.lvs.blk
   refine h.lvs.kept (kc _ _ _ _ hcs (by decide)) (fun j hj=>?_) (fun j q hj hq=>?_)
   ·obtain ⟨es,ck,hb⟩:=(h.lvs.lv j hj).mp.is
    exact hk _ (z0b hb) (fun cs f e=>by rw [hb] at e;cases e)
   ·obtain ⟨_,cs,f,hh⟩:=z4k (h.lvs.lv j hj).row hq
    exact kc _ _ _ _ hh (by decide)
def PMIs (zl:List Nat) (H0 W M s0 gx p:Nat) (tx:Value) (ws:World) (e:Ending) (w':World):Prop :=
 ∃n d:Nat,e=.returned (.tuple #[.int .i64 (n:Int),.int .i64 (d:Int)])∧(IsBest (zf zl) p (min p W) (min M (zl.length-p)) n d∨(n=0∧d=0∧(z4v (zf zl) p (min p W) s0∨zl.length<p+s0)))∧XAt zl H0 W M s0 gx p tx w'∧Keeps H0 [3,123,162] ws w'
theorem y7k (zl:List Nat) (H0 W M s0 gx p:Nat) (a:Option Addr) (cap:Nat) (ws:World) (hx:XAt zl H0 W M s0 gx p (.slice a zl.length cap) ws) (hr:z0m H0 ws (.slice a zl.length cap) zl) (hcap:zl.length≤cap) (hz:∀c∈zl,c<256) (hl:zl.length≤100000000) (hp:p<zl.length) (hH:H0≤ws.heap.size) (hH0:0<H0) (hW:W≤9223372036854775807) (hM:M≤9223372036854775807) (hm:ML ws) :
  Calls Tryz.prog 65 #[.pointer (some ⟨gx,0,none⟩),.int .i64 (p:Int)] ws fun e w'=>PMIs zl H0 W M s0 gx p (.slice a zl.length cap) ws e w':=by
 have hx0:=hx.c0
 have hx1:=hx.c1
 rcases id hx with h|⟨B,f,N,b,v,gl,lc,h1,h2,h3,h4,h5,h6,h7,h8,h⟩
 ·refine (x3e zl a H0 cap p W M gx ws hr hcap hz hl (by omega) hH hW hM hx0 hx1 (by simp [World.cell?,h]) (by simp [World.cell?,h]) hm).mono ?_
  rintro e w' ⟨n,d,rfl,hb,hbel⟩
  exact ⟨n,d,rfl,.inl hb,hx.keep hbel.size (fun x hx _=>hbel.block x hx),Keeps.of_below hbel⟩
 ·obtain ⟨ba,off,rfl⟩:∃ba off,a=some ⟨ba,off,none⟩:=by
   obtain ⟨a',c',e,_,hs⟩:=hr
   injection e with e1 e2 e3
   obtain ⟨b',off',e,_⟩:=hs (by omega)
   exact ⟨b',off',by rw [e1];exact e⟩
  refine (x7c zl B N (fun j=>s0*2^j) b v gx gl lc W M f p cap ba off ws h5 h4 h6 h7 (fun j hj=>by show s0*2^(j+1)=2*(s0*2^j);rw [Nat.pow_succ,Nat.mul_comm 2,Nat.mul_assoc]) h8 (hr.mono h1) hcap hz hp h3 hl h2 (by omega) hW hM h hm).mono ?_
  rintro e w' ⟨n,d,rfl,hres,⟨v',hx'⟩,hk⟩
  have hres':IsBest (zf zl) p (min p W) (min M (zl.length-p)) n d∨(n=0∧d=0∧(z4v (zf zl) p (min p W) s0∨zl.length<p+s0)):=by
   have e:s0*2^0=s0:=by simp
   unfold MRes at hres
   simp only [e] at hres
   exact hres
  exact ⟨n,d,rfl,hres',.inr ⟨B,p,N,b,v',gl,lc,h1,by have:=hk.size;omega,Nat.le_refl _,h4,h5,h6,h7,h8,hx'⟩,⟨hk.os,hk.tape,hk.output,hk.size,fun x hx hB=>hk.low x hx (by omega),hk.typ⟩⟩
theorem y5p (zl:List Nat) (H0 W M s0 p:Nat) (tx:Value) (ws:World) (e:Ending) (w':World) (hH:H0≤ws.heap.size) (h:w3n zl ws.heap.size W M s0 tx ws e w'):e=.returned (.pointer (some ⟨ws.heap.size,0,none⟩))∧Below ws.heap.size ws w'∧XAt zl H0 W M s0 ws.heap.size p tx w':=by
 obtain ⟨rfl,hb,hor⟩:=h
 refine ⟨rfl,hb,?_⟩
 rcases hor with h|⟨N,b,gl,lc,h1,h2,h3,h4,h5,h⟩
 ·exact .inl h
 ·exact .inr ⟨ws.heap.size,0,N,b,_,gl,lc,hH,hb.size,Nat.zero_le _,h1,h2,h3,h4,h5,h⟩
end T6
namespace T6
open Go.RowKit Go.Maps
attribute [local go_sem ↓] wp_at_zero wp_at_succ
theorem x1d (zl:List Nat) (a:Option Addr) (cap B p W K:Nat) (w:World) (hr:z0m B w (.slice a zl.length cap) zl) (hcap:zl.length≤cap) (hp:p≤zl.length) (hl:zl.length≤100000000) (hW:W≤9223372036854775807) (hK:zl.length-p≤K) (hK2:K≤100000000) :
  Calls Tryz.prog 62 #[.slice a zl.length cap,.int .i64 (p:Int),.int .i64 (W:Int),.int .i64 (K:Int)] w fun e w'=>∃a',e=.returned (.tuple #[.slice a' (zl.drop (p-min p W)).length (zl.drop (p-min p W)).length,.int .i64 ((min p W:Nat):Int)])∧z0m B w (.slice a' (zl.drop (p-min p W)).length (zl.drop (p-min p W)).length) (zl.drop (p-min p W))∧w'=w:=by
 have e:min p W+min K (zl.length-p)=(zl.drop (p-min p W)).length:=by simp;omega
 have e2:(zl.drop (p-min p W)).take (zl.drop (p-min p W)).length=zl.drop (p-min p W):=List.take_length
 have h:=look_ok zl a cap B p W K w hr hcap hp (by omega) hW (by omega)
 rw [e,e2] at h
 exact h
structure PAt (zs:List Nat) (H0 W least M P0 o p gx:Nat) (a:Option Addr) (tv:Value) (ts:List Tok) (w ws:World):Prop where
 par:Parsed zs W least M P0 ts (o+p)
 win:o=0∨W≤p
 le:o+p≤zs.length
 rd:z0m H0 ws (.slice a (zs.drop o).length (zs.drop o).length) (zs.drop o)
 row:ws.ownsRow H0 76 3 tv ts.length (z1l ts)
 bel:Below H0 w ws
 ix:XAt (zs.drop o) H0 W M (min least 8) gx p (.slice a (zs.drop o).length (zs.drop o).length) ws
section
variable {zs:List Nat} {H0 W least M P0 o p gx:Nat} {a:Option Addr} {tv:Value} {ts:List Tok} {w ws w':World}
theorem y6b {B n:Nat} {v:Value} {xs:List Value} {e size:Nat} (h:ws.ownsRow B e size v n xs) {q:Nat} (hq:v.ownBlock=some q):q<ws.heap.size∧∃cs,ws.heap[q]?=some (.cells cs e (0,0)):=by
 obtain ⟨_,cs,h2⟩:=y3y h hq
 exact ⟨z0b h2,cs,h2⟩
theorem PAt.drew (h:PAt zs H0 W least M P0 o p gx a tv ts w ws):PAt zs H0 W least M P0 o p gx a tv ts w ws.drew :=
 ⟨h.par,h.win,h.le,h.rd.stays ⟨rfl,rfl,rfl,Nat.le_refl _,fun _ _=>rfl⟩,z0y h.row (fun _ _=>rfl),⟨h.bel.os,h.bel.tape,h.bel.output,h.bel.size,h.bel.block⟩,h.ix.keep (Nat.le_refl _) (fun _ _ _=>rfl)⟩
theorem PAt.met (h:PAt zs H0 W least M P0 o p gx a tv ts w ws) (hs:H0≤ws.heap.size) (hk:Keeps H0 [3,123,162] ws w') (hx:XAt (zs.drop o) H0 W M (min least 8) gx p (.slice a (zs.drop o).length (zs.drop o).length) w'):PAt zs H0 W least M P0 o p gx a tv ts w w':=by
 have hbl:Below H0 ws w':=hk.below hs
 exact ⟨h.par,h.win,h.le,h.rd.stays hbl,z0y h.row (fun q hq=>by
  obtain ⟨_,cs,hcs⟩:=y6b h.row hq
  exact hk.typ q _ _ _ hcs (by decide)),h.bel.trans hbl,hx⟩
theorem PAt.anew {o' p':Nat} {a':Option Addr} (h:PAt zs H0 W least M P0 o p gx a tv ts w ws) (hs:H0≤ws.heap.size) (ho:o'+p'=o+p) (hwin:o'=0∨W≤p') (hrd:z0m H0 ws (.slice a' (zs.drop o').length (zs.drop o').length) (zs.drop o')) (hb:Below ws.heap.size ws w') (hx:XAt (zs.drop o') H0 W M (min least 8) ws.heap.size p' (.slice a' (zs.drop o').length (zs.drop o').length) w'):PAt zs H0 W least M P0 o' p' ws.heap.size a' tv ts w w':=by
 have hbl:Below H0 ws w':=⟨hb.os,hb.tape,hb.output,hb.size,fun k hk=>hb.block k (by omega)⟩
 exact ⟨by rw [ho];exact h.par,hwin,by rw [ho];exact h.le,hrd.stays hbl,z0y h.row (fun q hq=>hb.block q (y6b h.row hq).1),h.bel.trans hbl,hx⟩
theorem PAt.app {t:Tok} {q:Nat} {blk:Obj} {tv':Value} (h:PAt zs H0 W least M P0 o p gx a tv ts w ws) (hs:H0≤ws.heap.size) (hp:o+p<zs.length) (ht:z8b zs W least M (o+p) t (o+q)) (hq:p≤q) (hql:o+q≤zs.length) (hown:w'.ownsRow H0 76 3 tv' (ts.length+1) (z1l (ts++[t]))) (hg:(ws.alloc blk).grownBy w' tv.ownBlock):PAt zs H0 W least M P0 o q gx a tv' (ts++[t]) w w':=by
 have k1:∀x,x<ws.heap.size→tv.ownBlock≠some x→w'.heap[x]?=ws.heap[x]?:=fun x hx hr=>by
  rw [hg.block x (by simp;omega) (fun e=>hr e.symm)];exact Below.heap_alloc _ _ _ hx
 have hbl:Below H0 ws w':=⟨hg.os,hg.tape,hg.output,by have:=hg.size;simp at this;omega,fun k hk=>k1 k (by omega) (fun e=>by have:=(y3y h.row e).1;omega)⟩
 refine ⟨h.par.snoc hp ht,?_,hql,h.rd.stays hbl,by simpa using hown,h.bel.trans hbl,((h.ix.keep hbl.size (fun x hx hne=>k1 x hx (fun e=>?_))).mono hq)⟩
 ·rcases h.win with e|e
  ·exact .inl e
  ·exact .inr (by omega)
 ·obtain ⟨_,cs,hcs⟩:=y6b h.row e
  exact hne _ _ hcs
end
end T6
namespace T6
open Go.RowKit Go.Maps
attribute [local go_sem ↓] wp_at_zero wp_at_succ
theorem z9y (w:World) (t:Tok):z6k (w.alloc (.cells #[.int .i64 t.n,.int .i64 t.d,.int .u8 (t.b:Int)] 76)) (some ⟨w.heap.size,0,none⟩) 1 [t]:=by
 refine .inr ⟨_,rfl,by simp,fun j u hj=>?_⟩
 have ea:(⟨w.heap.size,0,none⟩:Addr).add j=⟨w.heap.size,j,none⟩:=by by_cases hq:j=0<;>simp [Addr.add,hq]
 rw [ea]
 simp only [World.cell?]
 rw [z0k,if_pos rfl]
 simpa [z1l] using hj
def x0p (zs:List Nat) (p W least M:Nat) (w:World) (e:Ending) (w':World):Prop :=
 ∃ (tv:Value) (ts:List Tok),e=.returned (.tuple #[tv,.int .i64 0])∧Parsed zs W least M p ts zs.length∧w'.ownsRow w.heap.size 76 3 tv ts.length (z1l ts)∧Below w.heap.size w w'
theorem x3k (zs:List Nat) (a0:Option Addr) (cap P0 W least M:Nat) (w:World) (hr:z0m w.heap.size w (.slice a0 zs.length cap) zs) (hcap:zs.length≤cap) (hz:∀c∈zs,c<256) (hl:zs.length≤100000000) (hp0:P0≤zs.length) (hW1:1≤W) (h1:1≤least) (hlM:least≤M) (hW:W≤9223372036854775807) (hM:M≤9223372036854775807) (hm:ML w) :
  Calls Tryz.prog 29 #[.slice a0 zs.length cap,.int .i64 (P0:Int),.int .i64 (W:Int),.int .i64 (least:Int),.int .i64 (M:Int)] w fun e w'=>x0p zs P0 W least M w e w':=by
 obtain ⟨H0,hH⟩:∃H0,H0=w.heap.size:=⟨_,rfl⟩
 have HHW:=qz hH
 have hH00:0<H0:=by obtain ⟨m,hm⟩:=hm;have:=z1e hm;rw [hH];exact this
 have HMLS:Hid (∀ws,Below H0 w ws→ML ws):=qz fun ws hb=>by
  obtain ⟨m,hm⟩:=hm
  exact ⟨m,cell_below hb hm hH00⟩
 have HZD:Hid (∀o,∀c∈zs.drop o,c<256):=qz fun o c hc=>hz c (List.mem_of_mem_drop hc)
 have HLA:=qz (x1d zs a0 cap w.heap.size P0 W zs.length w hr hcap hp0 hl hW (by omega) hl)
 obtain ⟨L,hL⟩:∃L,L=zs.length:=⟨_,rfl⟩
 have HLL:Hid (∀o,(zs.drop o).length=L-o):=qz fun o=>by rw [hL];simp
 rw [←hL] at HLA hcap hl hp0 ⊢
 have HTX:=qz hL
 have t1:¬ (P0:Int)<0:=by omega
 have t2:¬ (L:Int)<(P0:Int):=by omega
 have t3:¬ (W:Int)<1:=by omega
 have t4:¬ (least:Int)<1:=by omega
 have t5:¬ (M:Int)<(least:Int):=by omega
 clear hm hr hz hL hH
 go_enter Tryz.func29,Tryz.ntmps29
 go_wp2_with fail
 refine (uh HLA).mono ?_
 rintro e w' ⟨a,rfl,hrd,hww⟩
 replace hww:=hww.symm
 subst hww
 obtain ⟨o,ho⟩:∃o,o=P0-min P0 W:=⟨_,rfl⟩
 obtain ⟨p,hpp⟩:∃p,p=min P0 W:=⟨_,rfl⟩
 have HOP:Hid (o+p=P0):=qz (by omega)
 have HWIN:Hid (o=0∨W≤p):=qz (by omega)
 rw [←ho] at hrd ⊢
 rw [←hpp]
 obtain ⟨Ll,hLl⟩:∃Ll,Ll=(zs.drop o).length:=⟨_,rfl⟩
 have HLO:Hid (Ll=L-o):=qz (by rw [hLl];exact uh HLL o)
 rw [←hLl] at hrd ⊢
 have HNW:=qz (x1g (zs.drop o) a Ll Ll p W least M w (by have:=uh HLO;omega) (by have:=uh HLO;have:=uh HOP;omega) h1 hlM hM)
 have HLLl:=qz hLl
 clear hLl
 have HRD:=qz hrd
 clear hrd HLA ho hpp
 go_wp2_with fail
 refine (uh HNW).mono ?_
 rintro e w1 hnew
 obtain ⟨rfl,hb1,hx1⟩:=y5p (zs.drop o) H0 W M (min least 8) p _ w e w1 (by rw [uh HHW];exact Nat.le_refl _) hnew
 have hsz1:w.heap.size=H0:=(uh HHW).symm
 rw [hsz1] at hb1 hx1 ⊢
 have HP1:Hid (PAt zs H0 W least M P0 o p H0 a (.slice none 0 0) [] w w1):=qz (by
  have h0:=uh HRD
  rw [hsz1] at h0
  refine ⟨by rw [uh HOP];exact .nil,uh HWIN,by rw [uh HOP,←uh HTX];exact hp0,?_,World.ownsRow_nil _ _ _ _,hb1,by rw [←uh HLLl];exact hx1⟩
  rw [←uh HLLl]
  exact h0.stays hb1)
 clear hb1 hx1 hnew HRD HNW
 obtain ⟨p0,hp0'⟩:∃p0,p0=p:=⟨_,rfl⟩
 rw [←hp0'] at HP1 HOP HWIN ⊢
 clear hp0' hsz1
 go_wp2_with fail
 go_loopg [12,14,15] (L-(o+p0)) (fun gk tv av sv ws=>∃ (o p gx:Nat) (a:Option Addr) (ts:List Tok),gk=L-(o+p)∧av=.int .i64 (p:Int)∧sv=.pointer (some ⟨gx,0,none⟩)∧PAt zs H0 W least M P0 o p gx a tv ts w ws)
 case atStart=>exact ⟨o,p0,H0,a,[],rfl,rfl,rfl,uh HP1⟩
 case round =>
  clear HP1 HOP HWIN HLO HLLl
  obtain ⟨o,p,gx,a,ts,rfl,rfl,rfl,hat⟩:=hrel
  have c0:=hat.ix.c0
  have c1:=hat.ix.c1
  obtain ⟨Ll,hLl⟩:∃Ll,Ll=(zs.drop o).length:=⟨_,rfl⟩
  have HLO:Hid (Ll=L-o):=qz (by rw [hLl];exact uh HLL o)
  rw [←hLl] at c0
  have HLLl:=qz hLl
  have hople:o+p≤L:=by rw [uh HTX];exact hat.le
  clear hLl
  by_cases hlt:p<Ll
  ·have hlti:(p:Int)<(Ll:Int):=by omega
   have hopL:o+p<L:=by have:=uh HLO;omega
   have HOUT:=qz (w6f gx p W wr (by omega) hW c1)
   have HP:=qz hat
   clear hat c1
   go_wp2_with fail
   refine (uh HOUT).mono ?_
   rintro e ws ⟨hor,hws⟩
   have hat:PAt zs H0 W least M P0 o p gx a u12 ts w ws:=by rw [hws];exact (uh HP).drew
   clear hws HP HOUT c0
   rcases hor with ⟨rfl,hWp⟩|rfl
   ·have c0:=hat.ix.c0
    rw [←uh HLLl] at c0
    have HLA2:=qz (x1d (zs.drop o) a (zs.drop o).length H0 p W L ws hat.rd (Nat.le_refl _) (by rw [←uh HLLl];omega) (by rw [←uh HLLl];have:=uh HLO;omega) hW (by rw [←uh HLLl];have:=uh HLO;omega) hl)
    rw [show min p W=W by omega,List.drop_drop,←uh HLLl] at HLA2
    obtain ⟨o2,ho2⟩:∃o2,o2=o+(p-W):=⟨_,rfl⟩
    rw [←ho2] at HLA2
    obtain ⟨L2,hL2⟩:∃L2,L2=(zs.drop o2).length:=⟨_,rfl⟩
    have HLO2:Hid (L2=L-o2):=qz (by rw [hL2];exact uh HLL o2)
    rw [←hL2] at HLA2
    have HL2:=qz hL2
    have HO2:=qz ho2
    have hsz:H0≤ws.heap.size:=by have:=hat.bel.size;rw [←uh HHW] at this;exact this
    have HP:=qz hat
    clear hat hL2 ho2
    go_wp2_with fail
    refine (uh HLA2).mono ?_
    rintro e w5 ⟨a2,rfl,hrd2,hww⟩
    replace hww:=hww.symm
    subst hww
    have HNW2:=qz (x1g (zs.drop o2) a2 L2 L2 W W least M ws (by have:=uh HLO2;omega) (by have:=uh HLO2;have:=uh HO2;omega) h1 hlM hM)
    have HRD2:=qz hrd2
    clear hrd2 HLA2 c0
    go_wp2_with fail
    refine (uh HNW2).mono ?_
    rintro e w6 hnew2
    obtain ⟨rfl,hb6,hx6⟩:=y5p (zs.drop o2) H0 W M (min least 8) W _ ws e w6 hsz hnew2
    have hat3:=(uh HP).anew (o':=o2) (p':=W) (a':=a2) hsz (by have:=uh HO2;omega) (.inr (Nat.le_refl _)) (by rw [←uh HL2];exact uh HRD2) hb6 (by rw [←uh HL2];exact hx6)
    have hlt2:W<L2:=by have:=uh HLO2;have:=uh HO2;omega
    have hopL2:o2+W<L:=by have:=uh HO2;omega
    have hme:L-(o2+W)=L-(o+p):=by have:=uh HO2;omega
    obtain ⟨gx2,hgx2⟩:∃gx2,gx2=ws.heap.size:=⟨_,rfl⟩
    rw [←hgx2] at hat3 ⊢
    have HME:=qz hme
    clear hnew2 hb6 hx6 HP HNW2 HRD2 hgx2 hlt hlti hopL HLO HLLl hme HO2
    have hsz6:H0≤w6.heap.size:=by have:=hat3.bel.size;rw [←uh HHW] at this;exact this
    have HMA:=qz (y7k (zs.drop o2) H0 W M (min least 8) gx2 W a2 (zs.drop o2).length w6 hat3.ix hat3.rd (Nat.le_refl _) (uh HZD o2) (by have:=uh HLL o2;omega) (by rw [←uh HL2];exact hlt2) hsz6 hH00 hW hM ((uh HMLS) _ hat3.bel))
    rw [←uh HL2] at HMA
    have HPA:=qz hat3
    clear hat3
    go_wp2_with fail
    refine (uh HMA).mono ?_
    rintro e W2 ⟨n,d,rfl,hres,hx2,hk2⟩
    rw [←uh HL2] at hres
    have hat2:=(uh HPA).met hsz6 hk2 (by rw [←uh HL2];exact hx2)
    have hsz2:H0≤W2.heap.size:=by have:=hk2.size;omega
    have htok:=w3m (zs:=zs) (o:=o2) (p:=W) (W:=W) (least:=least) (M:=M) (s0:=min least 8) (n:=n) (d:=d) h1 (by omega) (by omega) (by rw [←uh HTX];exact hopL2) hat2.win (by rw [←uh HL2];exact hres)
    have c0:=hat2.ix.c0
    rw [←uh HL2] at c0
    have hlen:=(hat2.par.len h1 (by rw [←uh HTX];exact hp0)).1
    have hnm:n≤L:=by
     rcases hres with hb|⟨e,_⟩
     ·have:=hb.le;have:=uh HLO2;omega
     ·omega
    obtain ⟨K,hK⟩:∃K,K=ts.length:=⟨_,rfl⟩
    clear HMA HPA hres hx2 hk2
    by_cases hnl:n<least
    ·have hnli:(n:Int)<(least:Int):=by omega
     obtain ⟨ba,off,rfl⟩:∃ba off,a2=some ⟨ba,off,none⟩:=by
      obtain ⟨a',c',e,_,hs⟩:=hat2.rd
      injection e with e1 e2 e3
      obtain ⟨b',off',e,_⟩:=hs (by rw [←uh HL2];omega)
      exact ⟨b',off',by rw [e1];exact e⟩
     have kb:W2.cell? ⟨ba,off+W,none⟩=some (.int .u8 ((zs.drop o2).getD W 0:Int)):=by
      obtain ⟨a',c',e,_,hs⟩:=hat2.rd
      injection e with e1 e2 e3
      obtain ⟨b',off',e,_,hc⟩:=hs (by rw [←uh HL2];omega)
      rw [←e1] at e
      injection e with e
      injection e with e1 e2
      subst e1 e2
      exact hc W (by rw [←uh HL2];omega)
     have ht:=htok.1 hnl
     obtain ⟨y,hy⟩:∃y,y=(zs.drop o2).getD W 0:=⟨_,rfl⟩
     rw [←hy] at kb ht
     have HROW:=qz (hat2.row.alloc (.cells #[.int .i64 0,.int .i64 0,.int .u8 (y:Int)] 76))
     have HRT:Hid (z6k (W2.alloc (.cells #[.int .i64 0,.int .i64 0,.int .u8 (y:Int)] 76)) (some ⟨W2.heap.size,0,none⟩) 1 [⟨0,0,y⟩]):=qz (z9y W2 ⟨0,0,y⟩)
     have HAPP:Hid (∀v' w3,w3.ownsRow H0 76 3 v' (K+1) (z1l (ts++[⟨0,0,y⟩]))→(W2.alloc (.cells #[.int .i64 0,.int .i64 0,.int .u8 (y:Int)] 76)).grownBy w3 u12.ownBlock→PAt zs H0 W least M P0 o2 (W+1) gx2 (some ⟨ba,off,none⟩) v' (ts++[⟨0,0,y⟩]) w w3):=qz fun v' w3 q1 q2=>hat2.app hsz2 (by rw [←uh HTX];exact hopL2) (by rw [←Nat.add_assoc];exact ht) (by omega) (by rw [←uh HTX];omega) (by rw [←hK];exact q1) q2
     rw [←hK] at HROW
     clear hat2 ht htok hy
     go_wp2_with (at_builtin;go_must (refine z1m rfl _ _ rfl H0 u12 K ts (by rfl) (uh HROW) _ 1 1 [⟨0,0,y⟩] rfl (by rfl) (uh HRT) (by omega) (by simp;omega) ?_;intro v' w3 hown hgrow;have HP3:=qz (uh HAPP _ _ hown hgrow);clear hown hgrow HAPP HROW HRT))
     go_roundg (L-(o2+(W+1)))
     case measure=>have:=uh HME;omega
     case rel=>exact ⟨o2,W+1,gx2,_,_,rfl,by go_num,rfl,uh HP3⟩
    ·have hnli:¬ (n:Int)<(least:Int):=by omega
     obtain ⟨ht,hn1,hpn⟩:=htok.2 hnl
     rw [←uh HL2,uh HLO2] at hpn
     have HROW:=qz (hat2.row.alloc (.cells #[.int .i64 (n:Int),.int .i64 (d:Int),.int .u8 0] 76))
     have HRT:Hid (z6k (W2.alloc (.cells #[.int .i64 (n:Int),.int .i64 (d:Int),.int .u8 0] 76)) (some ⟨W2.heap.size,0,none⟩) 1 [⟨n,d,0⟩]):=qz (z9y W2 ⟨n,d,0⟩)
     have HAPP:Hid (∀v' w3,w3.ownsRow H0 76 3 v' (K+1) (z1l (ts++[⟨n,d,0⟩]))→(W2.alloc (.cells #[.int .i64 (n:Int),.int .i64 (d:Int),.int .u8 0] 76)).grownBy w3 u12.ownBlock→PAt zs H0 W least M P0 o2 (W+n) gx2 a2 v' (ts++[⟨n,d,0⟩]) w w3):=qz fun v' w3 q1 q2=>hat2.app hsz2 (by rw [←uh HTX];exact hopL2) (by rw [←Nat.add_assoc];exact ht) (by omega) (by rw [←uh HTX];omega) (by rw [←hK];exact q1) q2
     rw [←hK] at HROW
     obtain ⟨pn,hpn2⟩:∃pn:Nat,(W:Int)+(n:Int)=(pn:Int):=⟨W+n,by omega⟩
     have HPN:Hid (W+n=pn):=qz (by omega)
     have hwpn:IntKind.i64.wrap (pn:Int)=(pn:Int):=IntWalk.i64_in _ (by omega)
     clear hat2 ht htok
     go_wp2_with (at_builtin;go_must (refine z1m rfl _ _ rfl H0 u12 K ts (by rfl) (uh HROW) _ 1 1 [⟨n,d,0⟩] rfl (by rfl) (uh HRT) (by omega) (by simp;omega) ?_;intro v' w3 hown hgrow;have HP3:=qz (uh HAPP _ _ hown hgrow);clear hown hgrow HAPP HROW HRT))
     go_roundg (L-(o2+pn))
     case measure=>have:=uh HME;omega
     case rel=>exact ⟨o2,pn,gx2,_,_,rfl,rfl,rfl,by rw [←uh HPN];exact uh HP3⟩
   ·have hsz:H0≤ws.heap.size:=by have:=hat.bel.size;rw [←uh HHW] at this;exact this
    have HMA:=qz (y7k (zs.drop o) H0 W M (min least 8) gx p a (zs.drop o).length ws hat.ix hat.rd (Nat.le_refl _) (uh HZD o) (by have:=uh HLL o;omega) (by rw [←uh HLLl];exact hlt) hsz hH00 hW hM ((uh HMLS) _ hat.bel))
    rw [←uh HLLl] at HMA
    have HPA:=qz hat
    clear hat
    go_wp2_with fail
    refine (uh HMA).mono ?_
    rintro e W2 ⟨n,d,rfl,hres,hx2,hk2⟩
    rw [←uh HLLl] at hres
    have hat2:=(uh HPA).met hsz hk2 (by rw [←uh HLLl];exact hx2)
    have hsz2:H0≤W2.heap.size:=by have:=hk2.size;omega
    have htok:=w3m (zs:=zs) (o:=o) (p:=p) (W:=W) (least:=least) (M:=M) (s0:=min least 8) (n:=n) (d:=d) h1 (by omega) (by omega) (by rw [←uh HTX];exact hopL) hat2.win (by rw [←uh HLLl];exact hres)
    have c0:=hat2.ix.c0
    rw [←uh HLLl] at c0
    have hlen:=(hat2.par.len h1 (by rw [←uh HTX];exact hp0)).1
    have hnm:n≤L:=by
     rcases hres with hb|⟨e,_⟩
     ·have:=hb.le;have:=uh HLO;omega
     ·omega
    obtain ⟨K,hK⟩:∃K,K=ts.length:=⟨_,rfl⟩
    clear HMA HPA hres hx2 hk2
    by_cases hnl:n<least
    ·have hnli:(n:Int)<(least:Int):=by omega
     obtain ⟨ba,off,rfl⟩:∃ba off,a=some ⟨ba,off,none⟩:=by
      obtain ⟨a',c',e,_,hs⟩:=hat2.rd
      injection e with e1 e2 e3
      obtain ⟨b',off',e,_⟩:=hs (by rw [←uh HLLl];omega)
      exact ⟨b',off',by rw [e1];exact e⟩
     have kb:W2.cell? ⟨ba,off+p,none⟩=some (.int .u8 ((zs.drop o).getD p 0:Int)):=by
      obtain ⟨a',c',e,_,hs⟩:=hat2.rd
      injection e with e1 e2 e3
      obtain ⟨b',off',e,_,hc⟩:=hs (by rw [←uh HLLl];omega)
      rw [←e1] at e
      injection e with e
      injection e with e1 e2
      subst e1 e2
      exact hc p (by rw [←uh HLLl];omega)
     have ht:=htok.1 hnl
     obtain ⟨y,hy⟩:∃y,y=(zs.drop o).getD p 0:=⟨_,rfl⟩
     rw [←hy] at kb ht
     have HROW:=qz (hat2.row.alloc (.cells #[.int .i64 0,.int .i64 0,.int .u8 (y:Int)] 76))
     have HRT:Hid (z6k (W2.alloc (.cells #[.int .i64 0,.int .i64 0,.int .u8 (y:Int)] 76)) (some ⟨W2.heap.size,0,none⟩) 1 [⟨0,0,y⟩]):=qz (z9y W2 ⟨0,0,y⟩)
     have HAPP:Hid (∀v' w3,w3.ownsRow H0 76 3 v' (K+1) (z1l (ts++[⟨0,0,y⟩]))→(W2.alloc (.cells #[.int .i64 0,.int .i64 0,.int .u8 (y:Int)] 76)).grownBy w3 u12.ownBlock→PAt zs H0 W least M P0 o (p+1) gx (some ⟨ba,off,none⟩) v' (ts++[⟨0,0,y⟩]) w w3):=qz fun v' w3 q1 q2=>hat2.app hsz2 (by rw [←uh HTX];exact hopL) (by rw [←Nat.add_assoc];exact ht) (by omega) (by rw [←uh HTX];omega) (by rw [←hK];exact q1) q2
     rw [←hK] at HROW
     clear hat2 ht htok hy
     go_wp2_with (at_builtin;go_must (refine z1m rfl _ _ rfl H0 u12 K ts (by rfl) (uh HROW) _ 1 1 [⟨0,0,y⟩] rfl (by rfl) (uh HRT) (by omega) (by simp;omega) ?_;intro v' w3 hown hgrow;have HP3:=qz (uh HAPP _ _ hown hgrow);clear hown hgrow HAPP HROW HRT))
     go_roundg (L-(o+(p+1)))
     case measure=>omega
     case rel=>exact ⟨o,p+1,gx,_,_,rfl,by go_num,rfl,uh HP3⟩
    ·have hnli:¬ (n:Int)<(least:Int):=by omega
     obtain ⟨ht,hn1,hpn⟩:=htok.2 hnl
     rw [←uh HLLl,uh HLO] at hpn
     have HROW:=qz (hat2.row.alloc (.cells #[.int .i64 (n:Int),.int .i64 (d:Int),.int .u8 0] 76))
     have HRT:Hid (z6k (W2.alloc (.cells #[.int .i64 (n:Int),.int .i64 (d:Int),.int .u8 0] 76)) (some ⟨W2.heap.size,0,none⟩) 1 [⟨n,d,0⟩]):=qz (z9y W2 ⟨n,d,0⟩)
     have HAPP:Hid (∀v' w3,w3.ownsRow H0 76 3 v' (K+1) (z1l (ts++[⟨n,d,0⟩]))→(W2.alloc (.cells #[.int .i64 (n:Int),.int .i64 (d:Int),.int .u8 0] 76)).grownBy w3 u12.ownBlock→PAt zs H0 W least M P0 o (p+n) gx a v' (ts++[⟨n,d,0⟩]) w w3):=qz fun v' w3 q1 q2=>hat2.app hsz2 (by rw [←uh HTX];exact hopL) (by rw [←Nat.add_assoc];exact ht) (by omega) (by rw [←uh HTX];omega) (by rw [←hK];exact q1) q2
     rw [←hK] at HROW
     obtain ⟨pn,hpn2⟩:∃pn:Nat,(p:Int)+(n:Int)=(pn:Int):=⟨p+n,by omega⟩
     have HPN:Hid (p+n=pn):=qz (by omega)
     have hwpn:IntKind.i64.wrap (pn:Int)=(pn:Int):=IntWalk.i64_in _ (by omega)
     clear hat2 ht htok
     go_wp2_with (at_builtin;go_must (refine z1m rfl _ _ rfl H0 u12 K ts (by rfl) (uh HROW) _ 1 1 [⟨n,d,0⟩] rfl (by rfl) (uh HRT) (by omega) (by simp;omega) ?_;intro v' w3 hown hgrow;have HP3:=qz (uh HAPP _ _ hown hgrow);clear hown hgrow HAPP HROW HRT))
     go_roundg (L-(o+pn))
     case measure=>omega
     case rel=>exact ⟨o,pn,gx,_,_,rfl,rfl,rfl,by rw [←uh HPN];exact uh HP3⟩
  ·have hlti:¬ (p:Int)<(Ll:Int):=by omega
   have HE:Hid (x0p zs P0 W least M w (.returned (.tuple #[u12,.int .i64 0])) wr):=qz (by
    have e:o+p=zs.length:=by have:=uh HLO;have:=uh HTX;omega
    refine ⟨u12,ts,rfl,by rw [←e];exact hat.par,by rw [←uh HHW];exact hat.row,by rw [←uh HHW];exact hat.bel⟩)
   clear hat c1
   go_wp2_with fail
   go_ret2
   exact uh HE
end T6
namespace T6
open Go.RowKit
attribute [local go_sem ↓] wp_at_zero wp_at_succ
theorem below_drewN {B:Nat} {a w:World} (h:Below B a w) (n:Nat):Below B a (w.drewN n):=⟨h.os,h.tape,h.output,h.size,h.block⟩
theorem w0q {z:Nat→Nat} {p d k:Nat} (h:Eqs z p d k) (e:z (p+k)=z (p+k-d)):Eqs z p d (k+1):=fun i hi=>by
 by_cases h2:i=k
 ·subst h2;exact e
 ·exact h i (by omega)
def x2h (z:Nat→Nat) (p d m c:Nat):Prop:=c≤m∧Eqs z p d c∧(c<m→¬Eqs z p d (c+1))
theorem w6l (zs:List Nat) (b0 off0 cap p d M:Nat) (w:World) (B:Nat) (hr:z0m B w (.slice (some ⟨b0,off0,none⟩) zs.length cap) zs) (hl:zs.length≤1048576) (hp:p≤zs.length) (hd1:1≤d) (hdp:d≤p) :
  Calls Tryz.prog 67 #[.slice (some ⟨b0,off0,none⟩) zs.length cap,.int .i64 (p:Int),.int .i64 (d:Int),.int .i64 (M:Int)] w fun e w'=>∃c:Nat,e=.returned (.int .i64 (c:Int))∧x2h (zf zs) p d (min M (zs.length-p)) c∧∃q,w'=w.drewN q:=by
 obtain ⟨L,hL⟩:∃L,L=zs.length:=⟨_,rfl⟩
 have HKB:Hid (∀j,j<L→w.cell? ⟨b0,off0+j,none⟩=some (.int .u8 (zs.getD j 0:Int))):=qz fun j hj=>by
  obtain ⟨a',c',e,_,hs⟩:=hr
  injection e with e1 e2 e3
  obtain ⟨b',o',e,_,hc⟩:=hs (by rw [←hL];omega)
  rw [←e1] at e
  injection e with e
  injection e with e1 e2
  subst e1 e2
  exact hc j (by rw [←hL];exact hj)
 rw [←hL] at hl hp ⊢
 clear hr hL
 obtain ⟨m0,hm0⟩:∃m0,m0=min M (L-p):=⟨_,rfl⟩
 rw [←hm0]
 have HM0:=qz hm0
 clear hm0
 go_enter Tryz.func67,Tryz.ntmps67
 go_wp2_with fail
 go_loopg [9] (L+1) (fun gk vk ws=>∃ (k q:Nat),gk=L+1-k∧k≤M∧p+k≤L∧vk=.int .i64 (k:Int)∧Hid (Eqs (zf zs) p d k)∧ws=w.drewN q)
 case atStart=>exact ⟨0,0,rfl,by omega,by omega,rfl,qz (fun i hi=>by omega),rfl⟩
 case round =>
  obtain ⟨k,q,rfl,hk,hpk,rfl,HEQ,rfl⟩:=hrel
  by_cases hkM:k<M
  ·have hkMi:(k:Int)<(M:Int):=by omega
   obtain ⟨pk,hpk2⟩:∃pk:Nat,(p:Int)+(k:Int)=(pk:Int):=⟨p+k,by omega⟩
   have hwpk:IntKind.i64.wrap (pk:Int)=(pk:Int):=IntWalk.i64_in _ (by omega)
   by_cases hpL2:pk<L
   ·have hpLi:(pk:Int)<(L:Int):=by omega
    obtain ⟨pb,hpb⟩:∃pb:Nat,(pk:Int)-(d:Int)=(pb:Int):=⟨pk-d,by omega⟩
    have hwpb:IntKind.i64.wrap (pb:Int)=(pb:Int):=IntWalk.i64_in _ (by omega)
    have hpbL:(pb:Int)<(L:Int):=by omega
    have b1:=uh HKB pk hpL2
    have b2:=uh HKB pb (by omega)
    obtain ⟨y1,hy1⟩:∃y1,y1=zs.getD pk 0:=⟨_,rfl⟩
    obtain ⟨y2,hy2⟩:∃y2,y2=zs.getD pb 0:=⟨_,rfl⟩
    rw [←hy1] at b1
    rw [←hy2] at b2
    by_cases hyy:y1=y2
    ·have HEQ2:Hid (Eqs (zf zs) p d (k+1)):=qz (w0q (uh HEQ) (by
      show zs.getD (p+k) 0=zs.getD (p+k-d) 0
      rw [show p+k=pk by omega,show pk-d=pb by omega,←hy1,←hy2];exact hyy))
     have e1':((y1:Int) == (y2:Int))=true:=by simp [hyy]
     have e2':(y1 == y2)=true:=by simp [hyy]
     clear hy1 hy2 hyy HEQ
     go_wp2_with fail
     go_quiet (fail)
     go_wp2_with fail
     go_roundg (L+1-(k+1))
     case measure=>omega
     case rel=>exact ⟨k+1,q+nq,rfl,by omega,by omega,by go_num,HEQ2,by first|rfl|rw [World.drewN_drewN]⟩
    ·have e1':((y1:Int) == (y2:Int))=false:=by simp;omega
     have e2':(y1 == y2)=false:=by simp [hyy]
     have HR:Hid (x2h (zf zs) p d m0 k):=qz ⟨by rw [uh HM0];omega,uh HEQ,fun _ he=>hyy (by
      have:zs.getD (p+k) 0=zs.getD (p+k-d) 0:=he k (by omega)
      rw [show p+k=pk by omega,show pk-d=pb by omega,←hy1,←hy2] at this
      exact this)⟩
     clear hy1 hy2 hyy HEQ
     go_wp2_with fail
     go_quiet (fail)
     go_wp2_with fail
     go_ret
     exact ⟨k,rfl,uh HR,q+nq,by first|rfl|rw [World.drewN_drewN]⟩
   ·have hpLi:¬ (pk:Int)<(L:Int):=by omega
    have HR:Hid (x2h (zf zs) p d m0 k):=qz ⟨by rw [uh HM0];omega,uh HEQ,fun h=>by rw [uh HM0] at h;omega⟩
    clear HEQ
    go_wp2_with fail
    go_quiet (fail)
    go_wp2_with fail
    go_ret
    exact ⟨k,rfl,uh HR,q+nq,by first|rfl|rw [World.drewN_drewN]⟩
  ·have hkMi:¬ (k:Int)<(M:Int):=by omega
   have HR:Hid (x2h (zf zs) p d m0 k):=qz ⟨by rw [uh HM0];omega,uh HEQ,fun h=>by rw [uh HM0] at h;omega⟩
   clear HEQ
   go_wp2_with fail
   go_quiet (fail)
   go_wp2_with fail
   go_ret
   exact ⟨k,rfl,uh HR,q+nq,by first|rfl|rw [World.drewN_drewN]⟩
theorem x4z {z:Nat→Nat} {p j m n d c:Nat} (h:IsBest z p j m n d) (hc:x2h z p (j+1) m c):(n<c→IsBest z p (j+1) m c (j+1))∧(¬n<c→IsBest z p (j+1) m n d):=by
 obtain ⟨h1,h2,h3⟩:=h
 obtain ⟨k1,k2,k3⟩:=hc
 refine ⟨fun hlt=>⟨k1,.inr ⟨by omega,by omega,Nat.le_refl _,k2,fun d' e1 e2 he=>?_⟩,fun hl d' e1 e2 he=>?_⟩,fun hlt=>⟨h1,?_,fun hl d' e1 e2 he=>?_⟩⟩
 ·exact h3 (by omega) d' e1 (by omega) (he.mono (by omega))
 ·by_cases e:d'=j+1
  ·subst e;exact k3 hl he
  ·exact h3 (by omega) d' e1 (by omega) (he.mono (by omega))
 ·rcases h2 with e|⟨a1,a2,a3,a4,a5⟩
  ·exact .inl e
  ·exact .inr ⟨a1,a2,by omega,a4,a5⟩
 ·by_cases e:d'=j+1
  ·subst e
   exact k3 (by omega) (he.mono (by omega))
  ·exact h3 hl d' e1 (by omega) he
def RMIs (zs:List Nat) (p W M:Nat) (w:World) (e:Ending) (w':World):Prop:=∃n d:Nat,e=.returned (.tuple #[.int .i64 (n:Int),.int .i64 (d:Int)])∧IsBest (zf zs) p (min p W) (min M (zs.length-p)) n d∧∃q,w'=w.drewN q
theorem y9v (zs:List Nat) (a:Option Addr) (cap p W M:Nat) (w:World) (B:Nat) (hr:z0m B w (.slice a zs.length cap) zs) (hl:zs.length≤1048576) (hp:p≤zs.length) (hW:1≤W) :
  Calls Tryz.prog 33 #[.slice a zs.length cap,.int .i64 (p:Int),.int .i64 (W:Int),.int .i64 (M:Int)] w fun e w'=>RMIs zs p W M w e w':=by
 have HRUN:Hid (∀q d,1≤d→d≤p→Calls Tryz.prog 67 #[.slice a zs.length cap,.int .i64 (p:Int),.int .i64 (d:Int),.int .i64 (M:Int)] (w.drewN q) fun e w'=>∃c:Nat,e=.returned (.int .i64 (c:Int))∧x2h (zf zs) p d (min M (zs.length-p)) c∧∃q',w'=w.drewN q'):=qz fun q d h1 h2=>by
  obtain ⟨b0,off0,rfl⟩:∃b0 off0,a=some ⟨b0,off0,none⟩:=by
   obtain ⟨a',c',e,_,hs⟩:=hr
   injection e with e1 e2 e3
   obtain ⟨b',off',e,_⟩:=hs (by omega)
   exact ⟨b',off',by rw [e1];exact e⟩
  refine (w6l zs b0 off0 cap p d M (w.drewN q) B (hr.drewN q) hl hp h1 h2).mono ?_
  rintro e w' ⟨c,rfl,hc,q',rfl⟩
  exact ⟨c,rfl,hc,q+q',by rw [World.drewN_drewN]⟩
 obtain ⟨L,hL⟩:∃L,L=zs.length:=⟨_,rfl⟩
 have HTX:=qz hL
 rw [←hL] at hl hp HRUN ⊢
 obtain ⟨m0,hm0⟩:∃m0,m0=min M (L-p):=⟨_,rfl⟩
 have hm0L:m0≤L:=by omega
 rw [←hm0] at HRUN
 have HM0:=qz hm0
 clear hm0 hr hL
 go_enter Tryz.func33,Tryz.ntmps33
 go_wp2_with fail
 go_loopg [10,11,12] (p+1) (fun gk vn vd vj ws=>∃ (j n d q:Nat),gk=p+1-j∧j≤min p W∧n≤m0∧vn=.int .i64 (n:Int)∧vd=.int .i64 (d:Int)∧vj=.int .i64 ((j+1:Nat):Int)∧Hid (IsBest (zf zs) p j m0 n d)∧ws=w.drewN q)
 case atStart=>exact ⟨0,0,0,0,rfl,by omega,by omega,rfl,rfl,rfl,qz ⟨Nat.zero_le _,.inl ⟨rfl,rfl⟩,fun _ d' h1 h2=>by omega⟩,rfl⟩
 case round =>
  obtain ⟨j,n,d,q,rfl,hj,hn,rfl,rfl,rfl,HBE,rfl⟩:=hrel
  obtain ⟨bk,hbk⟩:∃bk:Nat,bk=j+1:=⟨_,rfl⟩
  rw [←hbk]
  by_cases hc:bk≤W∧bk≤p
  ·obtain ⟨hc1,hc2⟩:=hc
   have i1:(bk:Int)≤(W:Int):=by omega
   have i2:(bk:Int)≤(p:Int):=by omega
   have HRC:=qz (uh HRUN q bk (by omega) hc2)
   have HBK:=qz hbk
   clear hbk
   go_wp2_with fail
   refine (uh HRC).mono ?_
   rintro e w' ⟨c,rfl,hrun,q',rfl⟩
   rw [uh HBK] at hrun
   have hst:=x4z (uh HBE) hrun
   have hcm:=hrun.1
   clear HRC hrun HBE
   by_cases hnc:n<c
   ·have i3:(n:Int)<(c:Int):=by omega
    have HB2:=qz (hst.1 hnc)
    clear hst
    go_wp2_with fail
    go_roundg (p+1-(j+1))
    case measure=>have:=uh HBK;omega
    case rel=>exact ⟨j+1,c,j+1,q',rfl,by have:=uh HBK;omega,hcm,rfl,by have:=uh HBK;congr 2,by have:=uh HBK;congr 1;omega,HB2,rfl⟩
   ·have i3:¬ (n:Int)<(c:Int):=by omega
    have HB2:=qz (hst.2 hnc)
    clear hst
    go_wp2_with fail
    go_roundg (p+1-(j+1))
    case measure=>have:=uh HBK;omega
    case rel=>exact ⟨j+1,n,d,q',rfl,by have:=uh HBK;omega,hn,rfl,rfl,by have:=uh HBK;congr 1;omega,HB2,rfl⟩
  ·have hcc:(¬ (bk:Int)≤(W:Int))∨((bk:Int)≤(W:Int)∧¬ (bk:Int)≤(p:Int)):=by omega
   have hjm:j=min p W:=by omega
   have HE:Hid (RMIs zs p W M w (.returned (.tuple #[.int .i64 (n:Int),.int .i64 (d:Int)])) (w.drewN q)):=qz ⟨n,d,rfl,by rw [←hjm,←uh HTX,←uh HM0];exact uh HBE,q,rfl⟩
   clear HBE hjm hc hbk
   rcases hcc with u1|⟨u1,u2⟩
   all_goals
    go_wp2_with fail
    go_ret2
    exact uh HE
end T6
namespace T6
open Go.RowKit
attribute [local go_sem ↓] wp_at_zero wp_at_succ
structure RPAt (zs:List Nat) (H0 W least M P0 p:Nat) (tv:Value) (ts:List Tok) (w ws:World):Prop where
 par:Parsed zs W least M P0 ts p
 le:p≤zs.length
 row:ws.ownsRow H0 76 3 tv ts.length (z1l ts)
 bel:Below H0 w ws
theorem RPAt.same {zs:List Nat} {H0 W least M P0 p:Nat} {tv:Value} {ts:List Tok} {w ws y:World} (h:RPAt zs H0 W least M P0 p tv ts w ws) (q:Nat) (e:y=ws.drewN q):RPAt zs H0 W least M P0 p tv ts w y:=by
 subst e
 exact ⟨h.par,h.le,z0y h.row (fun _ _=>rfl),below_drewN h.bel q⟩
theorem RPAt.app {zs:List Nat} {H0 W least M P0 p q:Nat} {tv tv':Value} {ts:List Tok} {w ws w':World} {t:Tok} {blk:Obj} (h:RPAt zs H0 W least M P0 p tv ts w ws) (hs:H0≤ws.heap.size) (hp:p<zs.length) (ht:z8b zs W least M p t q) (hq:q≤zs.length) (hown:w'.ownsRow H0 76 3 tv' (ts.length+1) (z1l (ts++[t]))) (hg:(ws.alloc blk).grownBy w' tv.ownBlock):RPAt zs H0 W least M P0 q tv' (ts++[t]) w w':=by
 refine ⟨h.par.snoc hp ht,hq,by simpa using hown,h.bel.trans ⟨hg.os,hg.tape,hg.output,by have:=hg.size;simp at this;omega,fun k hk=>?_⟩⟩
 rw [hg.block k (by simp;omega) (fun e=>by have:=(y3y h.row e.symm).1;omega)]
 exact Below.heap_alloc _ _ _ (by omega)
def y6k (zs:List Nat) (p W least M:Nat) (w:World) (e:Ending) (w':World):Prop :=
 ∃ (tv:Value) (ts:List Tok),e=.returned tv∧Parsed zs W least M p ts zs.length∧w'.ownsRow w.heap.size 76 3 tv ts.length (z1l ts)∧Below w.heap.size w w'
theorem y9x (zs:List Nat) (a:Option Addr) (cap P0 W least M:Nat) (w:World) (hr:z0m w.heap.size w (.slice a zs.length cap) zs) (hl:zs.length≤1048576) (hp0:P0≤zs.length) (hW1:1≤W) (h1:1≤least) :
  Calls Tryz.prog 14 #[.slice a zs.length cap,.int .i64 (P0:Int),.int .i64 (W:Int),.int .i64 (least:Int),.int .i64 (M:Int)] w fun e w'=>y6k zs P0 W least M w e w':=by
 obtain ⟨H0,hH⟩:∃H0,H0=w.heap.size:=⟨_,rfl⟩
 have HHW:=qz hH
 have HRD:Hid (∀ws,Below H0 w ws→z0m H0 ws (.slice a zs.length cap) zs):=qz fun ws hb=>by rw [←hH] at hr;exact hr.stays hb
 have HRM:Hid (∀ws p,Below H0 w ws→p≤zs.length→Calls Tryz.prog 33 #[.slice a zs.length cap,.int .i64 (p:Int),.int .i64 (W:Int),.int .i64 (M:Int)] ws fun e w'=>RMIs zs p W M ws e w'):=qz fun ws p hb hp=>y9v zs a cap p W M ws H0 (uh HRD ws hb) hl hp hW1
 obtain ⟨L,hL⟩:∃L,L=zs.length:=⟨_,rfl⟩
 have HTX:=qz hL
 rw [←hL] at hl hp0 HRM ⊢
 have HR0:Hid (RPAt zs H0 W least M P0 P0 (.slice none 0 0) [] w w):=qz ⟨.nil,by rw [←hL];exact hp0,World.ownsRow_nil _ _ _ _,Below.refl _ _⟩
 clear hr hL hH
 go_enter Tryz.func14,Tryz.ntmps14
 go_wp2_with fail
 go_loopg [11,12] (L-P0) (fun gk tv va ws=>∃ (p:Nat) (ts:List Tok),gk=L-p∧va=.int .i64 (p:Int)∧RPAt zs H0 W least M P0 p tv ts w ws)
 case atStart=>exact ⟨P0,[],rfl,rfl,uh HR0⟩
 case round =>
  clear HR0
  obtain ⟨p,ts,rfl,rfl,hat⟩:=hrel
  have hpL:p≤L:=by rw [uh HTX];exact hat.le
  by_cases hlt:p<L
  ·have hlti:(p:Int)<(L:Int):=by omega
   have HMC:=qz (uh HRM wr p hat.bel hpL)
   have HP:=qz hat
   have hsz:H0≤wr.heap.size:=by have:=hat.bel.size;rw [←uh HHW] at this;exact this
   have hlen:=(hat.par.len h1 (by rw [←uh HTX];exact hp0)).1
   obtain ⟨K,hK⟩:∃K,K=ts.length:=⟨_,rfl⟩
   rw [←hK] at hlen
   clear hat
   go_wp2_with fail
   refine (uh HMC).mono ?_
   rintro e W2 ⟨n,d,rfl,hbest,q,hW2⟩
   have hat2:=(uh HP).same q hW2
   have hsz2:H0≤W2.heap.size:=by rw [hW2];exact hsz
   have hnm:n≤L-p:=by have:=hbest.le;rw [←uh HTX] at this;omega
   clear HMC HP hW2
   by_cases hnl:least≤n
   ·have hnli:(least:Int)≤(n:Int):=by omega
    have ht:z8b zs W least M p ⟨n,d,0⟩ (p+n):=⟨n,d,hbest,.inl ⟨hnl,rfl,rfl⟩⟩
    have HROW:=qz (hat2.row.alloc (.cells #[.int .i64 (n:Int),.int .i64 (d:Int),.int .u8 0] 76))
    have HRT:Hid (z6k (W2.alloc (.cells #[.int .i64 (n:Int),.int .i64 (d:Int),.int .u8 0] 76)) (some ⟨W2.heap.size,0,none⟩) 1 [⟨n,d,0⟩]):=qz (z9y W2 ⟨n,d,0⟩)
    have HAPP:Hid (∀v' w3,w3.ownsRow H0 76 3 v' (K+1) (z1l (ts++[⟨n,d,0⟩]))→(W2.alloc (.cells #[.int .i64 (n:Int),.int .i64 (d:Int),.int .u8 0] 76)).grownBy w3 u11.ownBlock→RPAt zs H0 W least M P0 (p+n) v' (ts++[⟨n,d,0⟩]) w w3):=qz fun v' w3 q1 q2=>hat2.app hsz2 (by rw [←uh HTX];exact hlt) ht (by rw [←uh HTX];omega) (by rw [←hK];exact q1) q2
    rw [←hK] at HROW
    obtain ⟨pn,hpn2⟩:∃pn:Nat,(p:Int)+(n:Int)=(pn:Int):=⟨p+n,by omega⟩
    have HPN:Hid (p+n=pn):=qz (by omega)
    have hwpn:IntKind.i64.wrap (pn:Int)=(pn:Int):=IntWalk.i64_in _ (by omega)
    clear hat2 ht hbest
    go_wp2_with (at_builtin;go_must (refine z1m rfl _ _ rfl H0 u11 K ts (by rfl) (uh HROW) _ 1 1 [⟨n,d,0⟩] rfl (by rfl) (uh HRT) (by omega) (by simp;omega) ?_;intro v' w3 hown hgrow;have HP3:=qz (uh HAPP _ _ hown hgrow);clear hown hgrow HAPP HROW HRT))
    go_roundg (L-pn)
    case measure=>omega
    case rel=>exact ⟨pn,_,rfl,rfl,by rw [←uh HPN];exact uh HP3⟩
   ·have hnli:¬ (least:Int)≤(n:Int):=by omega
    have hrd:=uh HRD W2 hat2.bel
    obtain ⟨ba,off,rfl⟩:∃ba off,a=some ⟨ba,off,none⟩:=by
     obtain ⟨a',c',e,_,hs⟩:=hrd
     injection e with e1 e2 e3
     obtain ⟨b',off',e,_⟩:=hs (by rw [←uh HTX];omega)
     exact ⟨b',off',by rw [e1];exact e⟩
    have kb:W2.cell? ⟨ba,off+p,none⟩=some (.int .u8 (zs.getD p 0:Int)):=by
     obtain ⟨a',c',e,_,hs⟩:=hrd
     injection e with e1 e2 e3
     obtain ⟨b',off',e,_,hc⟩:=hs (by rw [←uh HTX];omega)
     rw [←e1] at e
     injection e with e
     injection e with e1 e2
     subst e1 e2
     exact hc p (by rw [←uh HTX];exact hlt)
    obtain ⟨y,hy⟩:∃y,y=zs.getD p 0:=⟨_,rfl⟩
    rw [←hy] at kb
    have ht:z8b zs W least M p ⟨0,0,y⟩ (p+1):=⟨n,d,hbest,.inr ⟨by omega,by rw [hy],rfl⟩⟩
    have HROW:=qz (hat2.row.alloc (.cells #[.int .i64 0,.int .i64 0,.int .u8 (y:Int)] 76))
    have HRT:Hid (z6k (W2.alloc (.cells #[.int .i64 0,.int .i64 0,.int .u8 (y:Int)] 76)) (some ⟨W2.heap.size,0,none⟩) 1 [⟨0,0,y⟩]):=qz (z9y W2 ⟨0,0,y⟩)
    have HAPP:Hid (∀v' w3,w3.ownsRow H0 76 3 v' (K+1) (z1l (ts++[⟨0,0,y⟩]))→(W2.alloc (.cells #[.int .i64 0,.int .i64 0,.int .u8 (y:Int)] 76)).grownBy w3 u11.ownBlock→RPAt zs H0 W least M P0 (p+1) v' (ts++[⟨0,0,y⟩]) w w3):=qz fun v' w3 q1 q2=>hat2.app hsz2 (by rw [←uh HTX];exact hlt) ht (by rw [←uh HTX];omega) (by rw [←hK];exact q1) q2
    rw [←hK] at HROW
    clear hat2 ht hbest hy hrd
    go_wp2_with (at_builtin;go_must (refine z1m rfl _ _ rfl H0 u11 K ts (by rfl) (uh HROW) _ 1 1 [⟨0,0,y⟩] rfl (by rfl) (uh HRT) (by omega) (by simp;omega) ?_;intro v' w3 hown hgrow;have HP3:=qz (uh HAPP _ _ hown hgrow);clear hown hgrow HAPP HROW HRT))
    go_roundg (L-(p+1))
    case measure=>omega
    case rel=>exact ⟨p+1,_,rfl,by go_num,uh HP3⟩
  ·have hlti:¬ (p:Int)<(L:Int):=by omega
   have HE:Hid (y6k zs P0 W least M w (.returned u11) wr):=qz (by
    have e:p=zs.length:=by have:=uh HTX;omega
    exact ⟨u11,ts,rfl,by rw [←e];exact hat.par,by rw [←uh HHW];exact hat.row,by rw [←uh HHW];exact hat.bel⟩)
   clear hat
   go_wp2_with fail
   go_ret
   exact uh HE
end T6
namespace W4
open Go.RowKit Mth Infl Defl
attribute [local go_sem ↓] wp_at_zero wp_at_succ
def z9j:Array Value:=#[.func (.func 20) #[] #[],.func (.func 21) #[] #[],.func (.func 22) #[] #[],.func (.func 23) #[] #[],.func (.func 24) #[] #[],.func (.func 25) #[] #[]]
def wayV (g kind:Nat):Value:=if kind=0 then .slice (some ⟨g,0,none⟩) 3 3 else .slice (some ⟨g,(kind-1)*2,none⟩) 1 (4-kind)
theorem x9o (kind:Nat) (w:World) (hk:kind≤3) :
  Calls Tryz.prog 10 #[.int .i64 (kind:Int)] w fun e w'=>e=.returned (wayV w.heap.size kind)∧w'=w.alloc (.cells z9j 59):=by
 unfold wayV z9j
 have hc:kind=0∨kind=1∨kind=2∨kind=3:=by omega
 rcases hc with rfl|rfl|rfl|rfl
 all_goals
  go_enter Tryz.func10,Tryz.ntmps10
  go_wp2_with fail
  go_ret
  exact ⟨rfl,rfl⟩
def z1w (w:World) (pp pb kind gw c1 c2:Nat):Prop:=w.heap[pp]?=some (.cells #[.pointer (some ⟨pb,0,none⟩),.int .i64 (kind:Int),wayV gw kind,.pointer (some ⟨c1,0,none⟩),.pointer (some ⟨c2,0,none⟩)] 42 (0,0))∧w.heap[gw]?=some (.cells z9j 59 (0,0))
end W4
namespace W4
open Go.RowKit Mth Infl Defl
attribute [local go_sem ↓] wp_at_zero wp_at_succ
theorem Safe.step {x x':World} {v0 v:Value} {pb k:Nat} (h:Safe x v0 pb k) (hc:Chg pb v0 x v x'):Safe x' v pb k:=by
 refine ⟨Nat.lt_of_lt_of_le h.1 hc.size,h.2.1,fun e=>?_⟩
 rcases hc.lies with e'|⟨g,e',hg⟩
 ·rw [e'] at e;exact h.2.2 e
 ·rw [e'] at e;injection e with e;have:=h.1;omega
structure Env (w x:World) (kind pp pb gw c1 c2 lo hi:Nat) (v0:Value):Prop where
 pack:z1w x pp pb kind gw c1 c2
 bel:Below w.heap.size w x
 wpb:w.heap.size≤pb
 spp:Safe x v0 pb pp
 sgw:Safe x v0 pb gw
 codes:TwoCodes z1b z1c x c1 c2 lo hi
 shi:∀k,lo≤k→k<hi→Safe x v0 pb k
 row:∀g,v0.ownBlock=some g→w.heap.size≤g
theorem Env.step {w x x':World} {kind pp pb gw c1 c2 lo hi:Nat} {v0 v:Value} (h:Env w x kind pp pb gw c1 c2 lo hi v0) (hc:Chg pb v0 x v x'):Env w x' kind pp pb gw c1 c2 lo hi v where
 pack:=⟨by rw [hc.keep pp h.spp.1 h.spp.2.1 h.spp.2.2];exact h.pack.1,by rw [hc.keep gw h.sgw.1 h.sgw.2.1 h.sgw.2.2];exact h.pack.2⟩
 bel:=h.bel.trans ⟨hc.os,hc.tape,hc.output,hc.size,fun k hk=>hc.keep k (Nat.lt_of_lt_of_le hk h.bel.size) (by have:=h.wpb;omega) (fun e=>by have:=h.row k e;omega)⟩
 wpb:=h.wpb
 spp:=h.spp.step hc
 sgw:=h.sgw.step hc
 codes:=h.codes.keep fun k h1 h2=>hc.keep k (h.shi k h1 h2).1 (h.shi k h1 h2).2.1 (h.shi k h1 h2).2.2
 shi:=fun k h1 h2=>(h.shi k h1 h2).step hc
 row:=fun g e=>by
  rcases hc.lies with e'|⟨g',e',hg⟩
  ·rw [e'] at e;exact h.row g e
  ·rw [e'] at e;injection e with e;have:=h.bel.size;omega
def x4q (kind:Nat) (zs:List Nat) (k:Nat) (tk:Nat→Nat→List T) (pl:List T→List Nat × List Nat × List Nat) (a:Option Addr) (c:Nat) (w:World):Prop :=
 ∀ (x:World) (v0:Value) (m f:Nat) (L:List Bool) (pp pb gw c1 c2 lo hi fr e:Nat) (last:Bool),Env w x kind pp pb gw c1 c2 lo hi v0→WOk x pb false v0 m L f→f≤7→L.length≤700000000000000→e=ende zs k fr→last=decide (zs.length≤fr+k)→(fr<zs.length∨fr=0) →
  Calls Tryz.prog 12 #[.pointer (some ⟨pp,0,none⟩),.slice a e c,.int .i64 (fr:Int),.bool last] x fun en w'=>en=.returned (.tuple #[])∧WrAt x v0 pb (L++ownB zs k kind tk pl fr L.length) w'
structure DfAt (zs:List Nat) (k kind:Nat) (tk:Nat→Nat→List T) (pl:List T→List Nat × List Nat × List Nat) (w x:World) (pp pb gw c1 c2 lo hi fr:Nat) (L:List Bool):Prop where
 at_:∃v m f,WOk x pb false v m L f∧f≤7∧Env w x kind pp pb gw c1 c2 lo hi v
 on:∃F,z6i zs k kind tk pl (zs.length+1) 0 []=z6i zs k kind tk pl (F+1) fr L∧zs.length≤fr+F
 le:L.length≤40000*fr
 pl:fr<zs.length∨fr=0
theorem DfAt.next {zs:List Nat} {k kind:Nat} {tk:Nat→Nat→List T} {pl:List T→List Nat × List Nat × List Nat} {w x x':World} {pp pb gw c1 c2 lo hi fr:Nat} {L:List Bool} {v0:Value} {m f:Nat}
  (h:DfAt zs k kind tk pl w x pp pb gw c1 c2 lo hi fr L) (hk:1≤k) (hlt:fr+k<zs.length) (hl:(ownB zs k kind tk pl fr L.length).length≤40000*k) (he:Env w x kind pp pb gw c1 c2 lo hi v0) (hw:WrAt x v0 pb (L++ownB zs k kind tk pl fr L.length) x') :
  DfAt zs k kind tk pl w x' pp pb gw c1 c2 lo hi (fr+k) (L++ownB zs k kind tk pl fr L.length):=by
 obtain ⟨v,m',f',k1,k2,k3⟩:=hw
 refine ⟨⟨v,m',f',k1,k2,he.step k3⟩,?_,?_,.inl hlt⟩
 ·obtain ⟨F,h1,h2⟩:=h.on
  obtain ⟨F',rfl⟩:∃F',F=F'+1:=⟨F-1,by omega⟩
  refine ⟨F',?_,by omega⟩
  rw [h1,z6i,if_neg (by omega)]
 ·have:=h.le
  rw [List.length_append,Nat.mul_add]
  omega
theorem y9b (kind:Nat) (zs:List Nat) (a:Option Addr) (c k:Nat) (tk:Nat→Nat→List T) (pl:List T→List Nat × List Nat × List Nat) (w:World) (hk1:1≤k) (hk2:k≤65535) (hkind:kind≤3) (hn:zs.length≤10000000) (hc:zs.length≤c) (ha:0<zs.length→∃b off,a=some ⟨b,off,none⟩)
  (hput:x4q kind zs k tk pl a c w) (hown:∀fr p,fr<zs.length∨fr=0→(ownB zs k kind tk pl fr p).length≤40000*k) :
  Calls Tryz.prog 6 #[.slice a zs.length c,.int .i64 (k:Int),.int .i64 (kind:Int)] w fun e w'=>∃g L,L=z6i zs k kind tk pl (zs.length+1) 0 []∧e=.returned (.tuple #[.slice (some ⟨g,0,none⟩) ((L.length+7)/8) ((L.length+7)/8),.int .i64 0])∧w'.heap[g]?=some (.cells ((pk false ((L.length+7)/8) L).map bv).toArray 5 (0,0))∧w.heap.size≤g∧Below w.heap.size w w':=by
 have HPUT:=qz hput
 have HOWN:=qz hown
 obtain ⟨n,hN⟩:∃n,n=zs.length:=⟨_,rfl⟩
 have HN:=qz hN
 rw [←hN] at hn hc ha ⊢
 clear hput hown hN
 have t1:decide ((k:Int)<1)=false:=by simp;omega
 have t2:decide (65535<(k:Int))=false:=by simp;omega
 have t3:¬ (k:Int)<1:=by omega
 have t4:¬65535<(k:Int):=by omega
 have t5:decide ((kind:Int)<0)=false:=by simp
 have t6:decide (3<(kind:Int))=false:=by simp;omega
 have t7:¬ (kind:Int)<0:=by omega
 have t8:¬3<(kind:Int):=by omega
 go_enter Tryz.func6,Tryz.ntmps6
 go_wp2_with fail
 refine (y5p false w).mono ?_
 rintro e w1 ⟨rfl,h1⟩
 have HW1:=qz h1
 have hs1:w1.heap.size=w.heap.size+1:=by rw [h1];simp
 have HWO1:Hid (WOk w1 w.heap.size false (.slice none 0 0) 0 [] 0):=qz (by rw [h1];exact x1g false w)
 have HB1:Hid (Below w.heap.size w w1):=qz (by rw [h1];exact (Below.refl _ _).alloc (Nat.le_refl _) _)
 have HS1:=qz hs1
 clear h1 hs1 HW1
 go_wp2_with fail
 refine (x9o kind w1 hkind).mono ?_
 rintro e w2 ⟨rfl,h2⟩
 have HB2:Hid (Below w1.heap.size w1 w2):=qz (by rw [h2];exact (Below.refl _ _).alloc (Nat.le_refl _) _)
 have HG2:Hid (w2.heap[w1.heap.size]?=some (.cells z9j 59 (0,0))):=qz (by rw [h2];exact heap_alloc_new _ _)
 have HS2:Hid (w2.heap.size=w1.heap.size+1):=qz (by rw [h2];simp)
 clear h2
 obtain ⟨wa,wl,wcp,hwv⟩:∃wa wl wcp,wayV w1.heap.size kind=.slice wa wl wcp:=by unfold wayV;split<;>exact ⟨_,_,_,rfl⟩
 have HWV:=qz hwv
 rw [hwv]
 clear hwv
 go_wp2_with fail
 refine (y5a w2).mono ?_
 rintro e w3 ⟨c1,c2,rfl,tc,b3⟩
 have HT3:=qz tc
 have HB3:=qz b3
 clear tc b3
 obtain ⟨w4,hw4⟩:∃w4,w4=w3.alloc (.cells #[.pointer (some ⟨w.heap.size,0,none⟩),.int .i64 (kind:Int),.slice wa wl wcp,.pointer (some ⟨c1,0,none⟩),.pointer (some ⟨c2,0,none⟩)] 42):=⟨_,rfl⟩
 have HS34:Hid (w4.heap.size=w3.heap.size+1):=qz (by rw [hw4];simp)
 have HB4:Hid (Below w3.heap.size w3 w4):=qz (by rw [hw4];exact (Below.refl _ _).alloc (Nat.le_refl _) _)
 have HENV:Hid (Env w w4 kind w3.heap.size w.heap.size w1.heap.size c1 c2 w2.heap.size w3.heap.size (.slice none 0 0)):=qz (by
  have e1:=uh HS1
  have e2:=uh HS2
  have e3:=(uh HB3).size
  have e4:=uh HS34
  refine ⟨⟨?_,?_⟩,?_,Nat.le_refl _,⟨by omega,by omega,by simp [Value.ownBlock]⟩,⟨by omega,by omega,by simp [Value.ownBlock]⟩,?_,fun q q1 q2=>⟨by omega,by omega,by simp [Value.ownBlock]⟩,fun g e=>by simp [Value.ownBlock] at e⟩
  ·rw [hw4,heap_alloc_new,←uh HWV]
  ·rw [(uh HB4).block _ (by omega),(uh HB3).block _ (by omega)];exact uh HG2
  ·exact (((uh HB1).trans ((uh HB2).mono (by omega))).trans ((uh HB3).mono (by omega))).trans ((uh HB4).mono (by omega))
  ·exact (uh HT3).keep fun q q1 q2=>(uh HB4).block q (by omega))
 have HWO4:Hid (WOk w4 w.heap.size false (.slice none 0 0) 0 [] 0):=qz ((((uh HWO1).below (uh HB2)).below (uh HB3)).below (uh HB4))
 go_wp2_with fail
 rw [←hw4]
 obtain ⟨pp,hpp⟩:∃pp,pp=w3.heap.size:=⟨_,rfl⟩
 obtain ⟨pb,hpb⟩:∃pb,pb=w.heap.size:=⟨_,rfl⟩
 obtain ⟨gw,hgw⟩:∃gw,gw=w1.heap.size:=⟨_,rfl⟩
 obtain ⟨lo,hlo⟩:∃lo,lo=w2.heap.size:=⟨_,rfl⟩
 obtain ⟨hi,hhi⟩:∃hi,hi=w3.heap.size:=⟨_,rfl⟩
 have HDF:Hid (DfAt zs k kind tk pl w w4 pp pb gw c1 c2 lo hi 0 []):=qz (by
  rw [hpp,hpb,hgw,hlo,hhi]
  exact ⟨⟨_,_,_,uh HWO4,by omega,uh HENV⟩,⟨zs.length,rfl,by omega⟩,by simp,.inr rfl⟩)
 rw [←hpp,←hpb]
 clear hw4 HS1 HS2 HS34 HB1 HB2 HB3 HB4 HENV HWO4 HWO1 HG2 HT3 HWV hpp hpb hgw hlo hhi
 go_loopg [9] n (fun gk fv ws=>∃ (fr:Nat) (L:List Bool),gk=n-fr∧fv=.int .i64 (fr:Int)∧fr≤n∧Hid (DfAt zs k kind tk pl w ws pp pb gw c1 c2 lo hi fr L))
 case atStart=>exact ⟨0,[],rfl,rfl,by omega,HDF⟩
 case round =>
  clear HDF
  obtain ⟨fr,L,rfl,rfl,hfr,hdf⟩:=hrel
  have hLle:L.length≤700000000000000:=by have:=(uh hdf).le;omega
  obtain ⟨v0,m,f,hwo,hf7,henv⟩:=(uh hdf).at_
  have HWO:=qz hwo
  have HENV:=qz henv
  clear hwo henv
  by_cases hlt:fr+k<n
  ·obtain ⟨b,off,rfl⟩:=ha (by omega)
   obtain ⟨e,he⟩:∃e,e=fr+k:=⟨_,rfl⟩
   have u1:(k:Int)<(n:Int)-(fr:Int):=by omega
   have u2:(fr:Int)+(k:Int)=(e:Int):=by omega
   have u3:e<n:=by omega
   have HP:=qz (uh HPUT wr v0 m f L pp pb gw c1 c2 lo hi fr e false (uh HENV) (uh HWO) hf7 hLle (by rw [he];unfold ende;rw [←uh HN];omega) (by rw [←uh HN];simp;omega) (uh hdf).pl)
   have HNX:Hid (∀x',WrAt wr v0 pb (L++ownB zs k kind tk pl fr L.length) x'→DfAt zs k kind tk pl w x' pp pb gw c1 c2 lo hi e (L++ownB zs k kind tk pl fr L.length)):=qz (fun x' hx'=>by
    rw [he]
    exact (uh hdf).next (v0:=v0) (m:=m) (f:=f) hk1 (by rw [←uh HN];exact hlt) (uh HOWN fr L.length (uh hdf).pl) (uh HENV) hx')
   have u4:e≤c:=by omega
   have hfe:fr<e:=by omega
   clear he
   go_wp2_with fail
   refine (uh HP).mono ?_
   rintro en x1 ⟨rfl,h1⟩
   have H1:=qz (uh HNX x1 h1)
   clear h1 HP HNX
   go_wp2_with fail
   go_roundg (n-e)
   case measure=>omega
   case rel=>exact ⟨e,_,rfl,rfl,by omega,H1⟩
  ·have u1:¬ (k:Int)<(n:Int)-(fr:Int):=by omega
   have HP:=qz (uh HPUT wr v0 m f L pp pb gw c1 c2 lo hi fr n true (uh HENV) (uh HWO) hf7 hLle (by unfold ende;rw [←uh HN];omega) (by rw [←uh HN];simp;omega) (uh hdf).pl)
   have HFIN:Hid (L++ownB zs k kind tk pl fr L.length=z6i zs k kind tk pl (n+1) 0 []):=qz (by
    obtain ⟨F,h1,h2⟩:=(uh hdf).on
    rw [uh HN,h1,z6i,if_pos (by rw [←uh HN];omega)])
   have hL2:(L++ownB zs k kind tk pl fr L.length).length≤1000000000000:=by
    rw [List.length_append]
    have:=(uh hdf).le
    have:=uh HOWN fr L.length (uh hdf).pl
    omega
   generalize L++ownB zs k kind tk pl fr L.length=Lf at HP HFIN hL2
   go_wp2_with fail
   refine (uh HP).mono ?_
   rintro en x1 ⟨rfl,v1,m1,f1,k1,k2,k3⟩
   have henv1:=(uh HENV).step k3
   have p0:x1.cell? ⟨pp,0,none⟩=some (.pointer (some ⟨pb,0,none⟩)):=by simp only [World.cell?,henv1.pack.1];rfl
   have hm1:m1=(Lf.length+7)/8:=by have:=k1.len;omega
   have HBY:=qz (w0h pb m1 f1 false v1 Lf x1 k1 (by omega))
   rw [hm1] at HBY
   have HB1:=qz henv1.bel
   clear k1 k2 k3 henv1 hm1 HP HPUT
   go_wp2_with fail
   refine (uh HBY).mono ?_
   rintro en x2 ⟨rfl,g1,g2⟩
   have HG1:=qz g1
   have HB2:Hid (Below w.heap.size w x2):=qz ((uh HB1).trans (g2.mono (uh HB1).size))
   clear g1 g2 HBY
   go_wp2_with fail
   go_ret2
   exact ⟨x1.heap.size,Lf,uh HFIN,rfl,uh HG1,(uh HB1).size,uh HB2⟩
end W4
namespace W4
open Go.RowKit Mth Infl Defl
attribute [local go_sem ↓] wp_at_zero wp_at_succ
def Keep (xb:Nat) (x x':World):Prop:=x.heap.size≤x'.heap.size∧∀k,k<x.heap.size→k≠xb→x'.heap[k]?=x.heap[k]?
structure Kp (H yb:Nat) (best:Array Value) (fn fm:Value) (x:World):Prop where
 rb:x.heap[H]?=some (.cells #[.int .i64 0,.int .i64 0] 69 (0,0))
 bb:x.heap[H+1]?=some (.cells best 69 (0,0))
 yy:x.heap[yb]?=some (.cells #[fn,fm] 59 (0,0))
theorem Kp.y0 {H yb:Nat} {best:Array Value} {fn fm:Value} {x:World} (h:Kp H yb best fn fm x):x.cell? ⟨yb,0,none⟩=some fn:=by simp [World.cell?,h.yy]
theorem Kp.keep {H yb xb:Nat} {best:Array Value} {fn fm:Value} {x x':World} (h:Kp H yb best fn fm x) (hk:Keep xb x x') (h1:xb<H) (h2:H+2≤yb):Kp H yb best fn fm x' :=
 ⟨by rw [hk.2 H (z0b h.rb) (by omega)];exact h.rb,by rw [hk.2 (H+1) (z0b h.bb) (by omega)];exact h.bb,by rw [hk.2 yb (z0b h.yy) (by omega)];exact h.yy⟩
theorem Kp.drewN {H yb:Nat} {best:Array Value} {fn fm:Value} {x:World} (h:Kp H yb best fn fm x) (q:Nat):Kp H yb best fn fm (x.drewN q):=⟨h.rb,h.bb,h.yy⟩
theorem Kp.alloc {H yb:Nat} {best:Array Value} {fn fm:Value} {x:World} (h:Kp H yb best fn fm x) (o:Obj):Kp H yb best fn fm (x.alloc o) :=
 ⟨by rw [Below.heap_alloc _ _ _ (z0b h.rb)];exact h.rb,by rw [Below.heap_alloc _ _ _ (z0b h.bb)];exact h.bb,by rw [Below.heap_alloc _ _ _ (z0b h.yy)];exact h.yy⟩
theorem Kp.set {H yb k:Nat} {best:Array Value} {fn fm:Value} {x:World} (h:Kp H yb best fn fm x) (o:Nat) (v:Value) (h1:k≠H) (h2:k≠H+1) (h3:k≠yb):Kp H yb best fn fm (x.setCell ⟨k,o,none⟩ v) :=
 ⟨by rw [heap_setCell_other _ _ _ _ (by exact h1.symm)];exact h.rb,by rw [heap_setCell_other _ _ _ _ (by exact h2.symm)];exact h.bb,by rw [heap_setCell_other _ _ _ _ (by exact h3.symm)];exact h.yy⟩
def w2v (SS:World→Prop) (H yb:Nat) (best:Array Value) (fn fm:Value) (i b:Int) (v:Value) (x:World):Prop :=
 ∃nb,v=.pointer (some ⟨nb,0,none⟩)∧SS x∧Kp H yb best fn fm x∧x.heap[nb]?=some (.cells #[.int .i64 i,.int .i64 b] 69 (0,0))∧H+2≤nb∧nb≠yb
theorem z9z {SS:World→Prop} {H yb nb:Nat} {best:Array Value} {fn fm:Value} {x:World} (i b:Int) (hset:∀x o v,SS x→SS (x.setCell ⟨nb,o,none⟩ v)) (h1:SS x) (h2:Kp H yb best fn fm x) (h3:x.heap[nb]?=some (.cells #[.int .i64 0,.int .i64 0] 69 (0,0))) (h4:H+2≤nb) (h5:nb≠yb) :
  w2v SS H yb best fn fm i b (.pointer (some ⟨nb,0,none⟩)) ((x.setCell ⟨nb,0,none⟩ (.int .i64 i)).setCell ⟨nb,1,none⟩ (.int .i64 b)):=by
 refine ⟨nb,rfl,hset _ _ _ (hset _ _ _ h1),(h2.set _ _ (by omega) (by omega) h5).set _ _ (by omega) (by omega) h5,?_,h4,h5⟩
 rw [heap_setCell_same _ nb 1 _ _ _ (heap_setCell_same _ nb 0 _ _ _ h3)]
 rfl
theorem x2p (n:Nat) (fns:Nat→Nat) (bs bi bb:Nat→Int) (gns:Nat→Nat) (S:Nat→Nat→Nat→World→Prop) (pp pb gw off cp xb:Nat) (at_:Int) (w:World) (H:Nat) (hH:Hid (H=w.heap.size)) (hn9:n≤9) (hn1:1≤n)
  (hb0:Hid (bi 0=0∧bb 0=0)) (hbn:Hid (∀i,i<n→(bi (i+1),bb (i+1))=if i=0∨bs i<bb i then ((i:Int),bs i) else (bi i,bb i))) (hnz:Hid (∀i,0<i→i≤n→(bb i == 0)=false))
  (hcall:∀ (i:Nat) (args:Array Value) (x:World),Sem.run Tryz.prog (callFunc (fns i) args) x=.ok (.enter (fns i) args) x)
  (hway:∀x,S 0 H H x→x.cell? ⟨pp,2,none⟩=some (.slice (some ⟨gw,off,none⟩) n cp))
  (hfn:∀i p q x,i<n→S i p q x→x.cell? ⟨gw,off+i*2,none⟩=some (.func (.func (fns i)) #[] #[])∧x.cell? ⟨gw,off+i*2+1,none⟩=some (.func (.func (gns i)) #[] #[]))
  (hcell:∀i p q x,S i p q x→x.cell? ⟨pp,0,none⟩=some (.pointer (some ⟨pb,0,none⟩)))
  (halloc:∀i p q x o,S i p q x→S i p q (x.alloc o)) (hset:∀i p q x k o v,S i p q x→H≤k→(k<p∨q≤k)→S i p q (x.setCell ⟨k,o,none⟩ v)) (hdrew:∀i p q x m,S i p q x→S i p q (x.drewN m))
  (hlen:∀i p q x,i<n→S i p q x→Calls Tryz.prog 66 #[.pointer (some ⟨pb,0,none⟩)] x fun e x'=>e=.returned (.int .i64 at_)∧∃m,x'=x.drewN m)
  (hwgh:∀i p q x,i<n→S i p q x→Calls Tryz.prog (fns i) #[.pointer (some ⟨xb,0,none⟩),.int .i64 at_] x fun e x'=>e=.returned (.int .i64 (bs i))∧Keep xb x x'∧∃p' q',S (i+1) p' q' x'∧q'≤x'.heap.size∧∀k,k<x.heap.size→H≤k→(k<p∨q≤k)→(k<p'∨q'≤k))
  (hxb:xb<H) (h0:S 0 H H w) :
  Calls Tryz.prog 30 #[.pointer (some ⟨pp,0,none⟩),.pointer (some ⟨xb,0,none⟩)] w fun e w'=>e=.returned (.agg #[.int .i64 (bi n),.int .i64 (bb n)])∧∃p q,S n p q w':=by
 obtain ⟨W2,hW2⟩:∃W2,W2=(w.alloc (.cells #[.int .i64 0,.int .i64 0] 69)).alloc (.cells #[.int .i64 0,.int .i64 0] 69):=⟨_,rfl⟩
 have HSS2:Hid (S 0 H H W2):=qz (by rw [hW2];exact halloc _ _ _ _ _ (halloc _ _ _ _ _ h0))
 have HR2:Hid (W2.heap[H]?=some (.cells #[.int .i64 0,.int .i64 0] 69 (0,0))):=qz (by rw [hW2,uh hH,Below.heap_alloc _ _ _ (by simp)];exact heap_alloc_new _ _)
 have HT2:Hid (W2.heap[H+1]?=some (.cells #[.int .i64 0,.int .i64 0] 69 (0,0))):=qz (by rw [hW2,uh hH,show w.heap.size+1=(w.alloc (.cells #[.int .i64 0,.int .i64 0] 69)).heap.size by simp];exact heap_alloc_new _ _)
 have e2:=hway W2 (uh HSS2)
 have e2':=e2
 rw [hW2] at e2'
 clear h0
 go_enter Tryz.func30,Tryz.ntmps30
 go_wp2_with fail
 rw [←hW2,←uh hH]
 clear hW2 e2'
 go_loopg [14] n (fun gk kv ws=>∃i p q,gk=n-i∧kv=.int .i64 (i:Int)∧i≤n∧Hid (S i p q ws)∧Hid (((H<p∨q≤H)∧(H+1<p∨q≤H+1))∧q≤ws.heap.size)∧Hid (ws.heap[H]?=some (.cells #[.int .i64 0,.int .i64 0] 69 (0,0)))∧Hid (ws.heap[H+1]?=some (.cells #[.int .i64 (bi i),.int .i64 (bb i)] 69 (0,0))))
 case atStart=>exact ⟨0,H,H,rfl,rfl,by omega,HSS2,qz ⟨⟨.inr (Nat.le_refl _),.inr (by omega)⟩,by have:=z0b (uh HR2);omega⟩,HR2,qz (by rw [(uh hb0).1,(uh hb0).2];exact uh HT2)⟩
 case round =>
  clear HSS2 HR2 HT2 e2
  obtain ⟨i,p,q,rfl,rfl,hile,hs,hu,hr,hb⟩:=hrel
  by_cases hin:i<n
  ·have hin':(i:Int)<(n:Int):=by omega
   obtain ⟨y0,y1⟩:=hfn i p q wr hin (uh hs)
   have z0:(wr.alloc (.cells #[.nilFunc,.nilFunc] 59)).cell? ⟨wr.heap.size,0,none⟩=some .nilFunc:=by simp only [World.cell?,heap_alloc_new];rfl
   have z1:(wr.alloc (.cells #[.nilFunc,.nilFunc] 59)).cell? ⟨wr.heap.size,1,none⟩=some .nilFunc:=by simp only [World.cell?,heap_alloc_new];rfl
   have z2:∀o,(wr.alloc (.cells #[.nilFunc,.nilFunc] 59)).frozen? ⟨wr.heap.size,o,none⟩=false:=fun o=>by simp only [World.frozen?,heap_alloc_new];simp
   go_upto_region 5 with fail
   obtain ⟨yb,hyb0⟩:∃yb,yb=wr.heap.size:=⟨_,rfl⟩
   obtain ⟨W3,hW3⟩:∃W3,W3=wr.alloc (.cells #[(.func (.func (fns i)) #[] #[]),(.func (.func (gns i)) #[] #[])] 59):=⟨_,rfl⟩
   have hyb:H+2≤yb:=by rw [hyb0];have:=z0b (uh hb);omega
   have HSS3:Hid (S i p q W3):=qz (by rw [hW3];exact halloc _ _ _ _ _ (uh hs))
   have HKP3:Hid (Kp H yb #[.int .i64 (bi i),.int .i64 (bb i)] (.func (.func (fns i)) #[] #[]) (.func (.func (gns i)) #[] #[]) W3):=qz (by
    rw [hW3,hyb0]
    exact ⟨by rw [Below.heap_alloc _ _ _ (z0b (uh hr))];exact uh hr,by rw [Below.heap_alloc _ _ _ (z0b (uh hb))];exact uh hb,heap_alloc_new _ _⟩)
   have HQ3:Hid (q≤W3.heap.size):=qz (by rw [hW3];simp;have:=(uh hu).2;omega)
   have HU:=qz (uh hu).1
   rw [←hW3,←hyb0]
   clear hW3 hyb0 hs hr hb hu y0 y1 z0 z1 z2
   go_cut [8] (fun v8 wc=>∃p' q',((H<p'∨q'≤H)∧(H+1<p'∨q'≤H+1))∧q'≤wc.heap.size∧w2v (S (i+1) p' q') H yb #[.int .i64 (bi i),.int .i64 (bb i)] (.func (.func (fns i)) #[] #[]) (.func (.func (gns i)) #[] #[]) (i:Int) (bs i) v8 wc)
   case first =>
    refine wp_region_noPanic ?_
    refine wp_region_held_drew (S:=fun x=>(∃j p q,S j p q x)∧Kp H yb #[.int .i64 (bi i),.int .i64 (bb i)] (.func (.func (fns i)) #[] #[]) (.func (.func (gns i)) #[] #[]) x) (by kernel_rfl) ⟨⟨_,_,_,hdrew _ _ _ _ 1 (uh HSS3)⟩,(uh HKP3).drewN 1⟩ (fun hHeld=>?_)
    obtain ⟨x0,hx0⟩:∃x0,x0=W3.drew:=⟨_,rfl⟩
    have HS0:Hid (S i p q x0):=qz (by rw [hx0];exact hdrew _ _ _ _ 1 (uh HSS3))
    have HK0:Hid (Kp H yb #[.int .i64 (bi i),.int .i64 (bb i)] (.func (.func (fns i)) #[] #[]) (.func (.func (gns i)) #[] #[]) x0):=qz (by rw [hx0];exact (uh HKP3).drewN 1)
    have HZ0:Hid (yb<x0.heap.size∧q≤x0.heap.size):=qz (by rw [hx0];exact ⟨z0b (uh HKP3).yy,uh HQ3⟩)
    show wpAnyH _ _ _ _ _ _ _ _ W3.drew
    rw [←hx0] at hHeld ⊢
    clear hx0
    refine hT 0 19 rfl rfl hHeld nPp (v:=?_) (fun x hSx=>?_) ?_
    rotate_left 1
    ·go_simp<;>with_reducible rfl
    simp only [sA,sB]
    refine hT 1 20 rfl rfl hHeld nPp (v:=?_) (fun x hSx=>?_) ?_
    rotate_left 1
    ·go_simp<;>with_reducible rfl
    simp only [sA,sB]
    refine hT 2 21 rfl rfl hHeld nPp (v:=?_) (fun x hSx=>?_) ?_
    rotate_left 1
    ·have q:=hSx.2.y0;clear hSx;go_simp<;>with_reducible rfl
    simp only [sA,sB]
    refine hT 3 22 rfl rfl hHeld nPp (v:=?_) (fun x hSx=>?_) ?_
    rotate_left 1
    ·go_simp<;>with_reducible rfl
    simp only [sA,sB]
    refine hT 4 23 rfl rfl hHeld nPp (v:=?_) (fun x hSx=>?_) ?_
    rotate_left 1
    ·go_simp<;>with_reducible rfl
    simp only [sA,sB]
    refine hT 5 24 rfl rfl hHeld nPp (v:=?_) (fun x hSx=>?_) ?_
    rotate_left 1
    ·go_simp<;>with_reducible rfl
    simp only [sA,sB]
    refine hT 6 25 rfl rfl hHeld nPp (v:=?_) (fun x hSx=>?_) ?_
    rotate_left 1
    ·go_simp<;>with_reducible rfl
    simp only [sA,sB]
    refine hT 7 26 rfl rfl hHeld nPp (v:=?_) (fun x hSx=>?_) ?_
    rotate_left 1
    ·have q:=(let ⟨j,p,q,h⟩:=hSx.1;hcell j p q x h);clear hSx;go_simp<;>with_reducible rfl
    simp only [sA,sB]
    refine z1s (i:=8) (j:=11) (by kernel_rfl) rfl rfl (fun K hK=>?_) (fun K hK=>?_)
    ·
     refine z4q 8 27 hK rfl (by rfl) (by go_simp<;>exact ⟨rfl,rfl⟩) ?_
     refine (hlen i p q x0 hin (uh HS0)).mono ?_
     rintro e x1 ⟨rfl,q1,hq1⟩
     have HS1:Hid (S i p q x1):=qz (by rw [hq1];exact hdrew _ _ _ _ _ (uh HS0))
     have HK1:Hid (Kp H yb #[.int .i64 (bi i),.int .i64 (bb i)] (.func (.func (fns i)) #[] #[]) (.func (.func (gns i)) #[] #[]) x1):=qz (by rw [hq1];exact (uh HK0).drewN _)
     have HZ1:Hid (yb<x1.heap.size∧q≤x1.heap.size):=qz (by rw [hq1];exact uh HZ0)
     clear hq1
     refine ⟨_,rfl,⟨⟨_,_,_,uh HS1⟩,uh HK1⟩,?_⟩
     simp only [sA,sB]
     refine z1s (i:=9) (j:=11) (by kernel_rfl) rfl rfl (fun K hK=>?_) (fun K hK=>?_)
     ·
      refine z4q 9 28 hK rfl (by rfl) (by go_simp<;>exact ⟨rfl,rfl⟩) ?_
      refine (hwgh i p q x1 hin (uh HS1)).mono ?_
      rintro e x2 ⟨rfl,k2,p',q',s2,z2,u2⟩
      have HS2:Hid (S (i+1) p' q' x2):=qz s2
      have HK2:Hid (Kp H yb #[.int .i64 (bi i),.int .i64 (bb i)] (.func (.func (fns i)) #[] #[]) (.func (.func (gns i)) #[] #[]) x2):=qz ((uh HK1).keep k2 hxb hyb)
      have HZ2:Hid (yb<x2.heap.size∧q'≤x2.heap.size):=qz ⟨Nat.lt_of_lt_of_le (uh HZ1).1 k2.1,z2⟩
      have HP:Hid ((H<p'∨q'≤H)∧(H+1<p'∨q'≤H+1)):=qz ⟨u2 H (by have:=(uh HZ1).1;omega) (by omega) (uh HU).1,u2 (H+1) (by have:=(uh HZ1).1;omega) (by omega) (uh HU).2⟩
      clear s2 k2 z2 u2
      refine ⟨_,rfl,⟨⟨_,_,_,uh HS2⟩,uh HK2⟩,?_⟩
      simp only [sA,sB]
      refine hT 10 29 rfl rfl ⟨⟨_,_,_,uh HS2⟩,uh HK2⟩ nPp (v:=?_) (fun x hSx=>?_) ?_
      rotate_left 1
      ·go_simp<;>with_reducible rfl
      simp only [sA,sB]
      refine hO 11 8 rfl rfl (v:=.pointer (some ⟨x2.heap.size,0,none⟩)) (w':=x2.alloc (.cells #[.int .i64 0,.int .i64 0] 69)) ?_ ⟨⟨_,_,_,halloc _ _ _ _ _ (uh HS2)⟩,(uh HK2).alloc _⟩ ?_
      ·first|(go_simp;done)|(go_simp<;>first|exact ⟨rfl,rfl⟩|rfl)
      simp only [sA,sB]
      obtain ⟨nb,hnb⟩:∃nb,nb=x2.heap.size:=⟨_,rfl⟩
      obtain ⟨x3,hx3⟩:∃x,x=x2.alloc (.cells #[.int .i64 0,.int .i64 0] 69):=⟨_,rfl⟩
      have HS3:Hid (S (i+1) p' q' x3):=qz (by rw [hx3];exact halloc _ _ _ _ _ (uh HS2))
      have HK3:Hid (Kp H yb #[.int .i64 (bi i),.int .i64 (bb i)] (.func (.func (fns i)) #[] #[]) (.func (.func (gns i)) #[] #[]) x3):=qz (by rw [hx3];exact (uh HK2).alloc _)
      have HZ3:Hid (yb<x3.heap.size∧q'≤x3.heap.size):=qz (by rw [hx3];simp;have:=uh HZ2;omega)
      have HN3:Hid (x3.heap[nb]?=some (.cells #[.int .i64 0,.int .i64 0] 69 (0,0))):=qz (by rw [hx3,hnb];exact heap_alloc_new _ _)
      have HNB:Hid (yb<nb):=qz (by rw [hnb];exact (uh HZ2).1)
      have HF:Hid (nb<p'∨q'≤nb):=qz (by rw [hnb];exact .inr (uh HZ2).2)
      rw [←hx3,←hnb]
      clear hx3 hnb
      have hc0:x3.cell? ⟨nb,0,none⟩=some (.int .i64 0):=by simp [World.cell?,uh HN3]
      have hc1:x3.cell? ⟨nb,1,none⟩=some (.int .i64 0):=by simp [World.cell?,uh HN3]
      have hf0:x3.frozen? ⟨nb,0,none⟩=false:=by simp [World.frozen?,uh HN3]
      have hf1:x3.frozen? ⟨nb,1,none⟩=false:=by simp [World.frozen?,uh HN3]
      have HD:=qz (z9z (i:Int) (bs i) (fun x o v h=>hset _ _ _ x nb o v h (by have:=uh HNB;omega) (uh HF)) (uh HS3) (uh HK3) (uh HN3) (by have:=uh HNB;omega) (by have:=uh HNB;omega))
      refine hKk 12 rfl rfl (w':=(x3.setCell ⟨nb,0,none⟩ (.int .i64 (i:Int))).setCell ⟨nb,1,none⟩ (.int .i64 (bs i))) ?_ ⟨⟨_,_,_,by obtain ⟨_,_,h,_⟩:=uh HD;exact h⟩,by obtain ⟨_,_,_,h,_⟩:=uh HD;exact h⟩ ?_
      ·first|(go_simp;done)|(go_simp<;>rfl)
      refine dN ?_
      go_wp2_with fail
      go_meet
      exact ⟨_,_,uh HP,by rw [World.size_setCell,World.size_setCell];exact (uh HZ3).2,uh HD⟩
     ·
      refine z0n 11 8 hK rfl (by rfl) (v:=.pointer (some ⟨x1.heap.size,0,none⟩)) (w':=x1.alloc (.cells #[.int .i64 0,.int .i64 0] 69)) ?_ ⟨⟨_,_,_,halloc _ _ _ _ _ (uh HS1)⟩,(uh HK1).alloc _⟩ ?_
      ·first|(go_simp;done)|(go_simp<;>first|exact ⟨rfl,rfl⟩|rfl)
      simp only [sA,sB]
      obtain ⟨nb,hnb⟩:∃nb,nb=x1.heap.size:=⟨_,rfl⟩
      obtain ⟨x2,hx2⟩:∃x,x=x1.alloc (.cells #[.int .i64 0,.int .i64 0] 69):=⟨_,rfl⟩
      have HS2:Hid (S i p q x2):=qz (by rw [hx2];exact halloc _ _ _ _ _ (uh HS1))
      have HK2:Hid (Kp H yb #[.int .i64 (bi i),.int .i64 (bb i)] (.func (.func (fns i)) #[] #[]) (.func (.func (gns i)) #[] #[]) x2):=qz (by rw [hx2];exact (uh HK1).alloc _)
      have HZ2:Hid (yb<x2.heap.size∧q≤x2.heap.size):=qz (by rw [hx2];simp;have:=uh HZ1;omega)
      have HN2:Hid (x2.heap[nb]?=some (.cells #[.int .i64 0,.int .i64 0] 69 (0,0))):=qz (by rw [hx2,hnb];exact heap_alloc_new _ _)
      have HNB:Hid (yb<nb):=qz (by rw [hnb];exact (uh HZ1).1)
      have HNQ:Hid (q≤nb):=qz (by rw [hnb];exact (uh HZ1).2)
      rw [←hx2,←hnb]
      clear hx2 hnb
      refine z0u 9 28 (by kernel_rfl) rfl rfl (by rfl) (by go_simp<;>exact ⟨rfl,rfl⟩) ?_
      refine (hwgh i p q x2 hin (uh HS2)).mono ?_
      rintro e x3 ⟨rfl,k3,p',q',s3,z3,u3⟩
      have HS3:Hid (S (i+1) p' q' x3):=qz s3
      have HK3:Hid (Kp H yb #[.int .i64 (bi i),.int .i64 (bb i)] (.func (.func (fns i)) #[] #[]) (.func (.func (gns i)) #[] #[]) x3):=qz ((uh HK2).keep k3 hxb hyb)
      have HZ3:Hid (yb<x3.heap.size∧q'≤x3.heap.size):=qz ⟨Nat.lt_of_lt_of_le (uh HZ2).1 k3.1,z3⟩
      have HP:Hid ((H<p'∨q'≤H)∧(H+1<p'∨q'≤H+1)):=qz ⟨u3 H (by have:=(uh HZ2).1;omega) (by omega) (uh HU).1,u3 (H+1) (by have:=(uh HZ2).1;omega) (by omega) (uh HU).2⟩
      have HF:Hid (nb<p'∨q'≤nb):=qz (u3 nb (z0b (uh HN2)) (by have:=uh HNB;omega) (.inr (uh HNQ)))
      have HN3:Hid (x3.heap[nb]?=some (.cells #[.int .i64 0,.int .i64 0] 69 (0,0))):=qz (by rw [k3.2 nb (z0b (uh HN2)) (by have:=uh HNB;omega)];exact uh HN2)
      clear s3 k3 z3 u3
      refine ⟨_,rfl,⟨⟨_,_,_,uh HS3⟩,uh HK3⟩,?_⟩
      simp only [sA,sB]
      refine hT 10 29 rfl rfl ⟨⟨_,_,_,uh HS3⟩,uh HK3⟩ nPp (v:=?_) (fun x hSx=>?_) ?_
      rotate_left 1
      ·go_simp<;>with_reducible rfl
      simp only [sA,sB]
      have hc0:x3.cell? ⟨nb,0,none⟩=some (.int .i64 0):=by simp [World.cell?,uh HN3]
      have hc1:x3.cell? ⟨nb,1,none⟩=some (.int .i64 0):=by simp [World.cell?,uh HN3]
      have hf0:x3.frozen? ⟨nb,0,none⟩=false:=by simp [World.frozen?,uh HN3]
      have hf1:x3.frozen? ⟨nb,1,none⟩=false:=by simp [World.frozen?,uh HN3]
      have HD:=qz (z9z (i:Int) (bs i) (fun x o v h=>hset _ _ _ x nb o v h (by have:=uh HNB;omega) (uh HF)) (uh HS3) (uh HK3) (uh HN3) (by have:=uh HNB;omega) (by have:=uh HNB;omega))
      refine hKk 12 rfl rfl (w':=(x3.setCell ⟨nb,0,none⟩ (.int .i64 (i:Int))).setCell ⟨nb,1,none⟩ (.int .i64 (bs i))) ?_ ⟨⟨_,_,_,by obtain ⟨_,_,h,_⟩:=uh HD;exact h⟩,by obtain ⟨_,_,_,h,_⟩:=uh HD;exact h⟩ ?_
      ·first|(go_simp;done)|(go_simp<;>rfl)
      refine dN ?_
      go_wp2_with fail
      go_meet
      exact ⟨_,_,uh HP,by rw [World.size_setCell,World.size_setCell];exact (uh HZ3).2,uh HD⟩
    ·
     refine z0n 11 8 hK rfl (by rfl) (v:=.pointer (some ⟨x0.heap.size,0,none⟩)) (w':=x0.alloc (.cells #[.int .i64 0,.int .i64 0] 69)) ?_ ⟨⟨_,_,_,halloc _ _ _ _ _ (uh HS0)⟩,(uh HK0).alloc _⟩ ?_
     ·first|(go_simp;done)|(go_simp<;>first|exact ⟨rfl,rfl⟩|rfl)
     simp only [sA,sB]
     obtain ⟨nb,hnb⟩:∃nb,nb=x0.heap.size:=⟨_,rfl⟩
     obtain ⟨x1,hx1⟩:∃x,x=x0.alloc (.cells #[.int .i64 0,.int .i64 0] 69):=⟨_,rfl⟩
     have HS1:Hid (S i p q x1):=qz (by rw [hx1];exact halloc _ _ _ _ _ (uh HS0))
     have HK1:Hid (Kp H yb #[.int .i64 (bi i),.int .i64 (bb i)] (.func (.func (fns i)) #[] #[]) (.func (.func (gns i)) #[] #[]) x1):=qz (by rw [hx1];exact (uh HK0).alloc _)
     have HZ1:Hid (yb<x1.heap.size∧q≤x1.heap.size):=qz (by rw [hx1];simp;have:=uh HZ0;omega)
     have HN1:Hid (x1.heap[nb]?=some (.cells #[.int .i64 0,.int .i64 0] 69 (0,0))):=qz (by rw [hx1,hnb];exact heap_alloc_new _ _)
     have HNB:Hid (yb<nb):=qz (by rw [hnb];exact (uh HZ0).1)
     have HNQ:Hid (q≤nb):=qz (by rw [hnb];exact (uh HZ0).2)
     rw [←hx1,←hnb]
     clear hx1 hnb
     refine z0u 8 27 (by kernel_rfl) rfl rfl (by rfl) (by go_simp<;>exact ⟨rfl,rfl⟩) ?_
     refine (hlen i p q x1 hin (uh HS1)).mono ?_
     rintro e x2 ⟨rfl,q2,hq2⟩
     have HS2:Hid (S i p q x2):=qz (by rw [hq2];exact hdrew _ _ _ _ _ (uh HS1))
     have HK2:Hid (Kp H yb #[.int .i64 (bi i),.int .i64 (bb i)] (.func (.func (fns i)) #[] #[]) (.func (.func (gns i)) #[] #[]) x2):=qz (by rw [hq2];exact (uh HK1).drewN _)
     have HZ2:Hid (yb<x2.heap.size∧q≤x2.heap.size):=qz (by rw [hq2];exact uh HZ1)
     have HN2:Hid (x2.heap[nb]?=some (.cells #[.int .i64 0,.int .i64 0] 69 (0,0))):=qz (by rw [hq2];exact uh HN1)
     clear hq2
     refine ⟨_,rfl,⟨⟨_,_,_,uh HS2⟩,uh HK2⟩,?_⟩
     simp only [sA,sB]
     refine z0u 9 28 (by kernel_rfl) rfl rfl (by rfl) (by go_simp<;>exact ⟨rfl,rfl⟩) ?_
     refine (hwgh i p q x2 hin (uh HS2)).mono ?_
     rintro e x3 ⟨rfl,k3,p',q',s3,z3,u3⟩
     have HS3:Hid (S (i+1) p' q' x3):=qz s3
     have HK3:Hid (Kp H yb #[.int .i64 (bi i),.int .i64 (bb i)] (.func (.func (fns i)) #[] #[]) (.func (.func (gns i)) #[] #[]) x3):=qz ((uh HK2).keep k3 hxb hyb)
     have HZ3:Hid (yb<x3.heap.size∧q'≤x3.heap.size):=qz ⟨Nat.lt_of_lt_of_le (uh HZ2).1 k3.1,z3⟩
     have HP:Hid ((H<p'∨q'≤H)∧(H+1<p'∨q'≤H+1)):=qz ⟨u3 H (by have:=(uh HZ2).1;omega) (by omega) (uh HU).1,u3 (H+1) (by have:=(uh HZ2).1;omega) (by omega) (uh HU).2⟩
     have HF:Hid (nb<p'∨q'≤nb):=qz (u3 nb (z0b (uh HN2)) (by have:=uh HNB;omega) (.inr (uh HNQ)))
     have HN3:Hid (x3.heap[nb]?=some (.cells #[.int .i64 0,.int .i64 0] 69 (0,0))):=qz (by rw [k3.2 nb (z0b (uh HN2)) (by have:=uh HNB;omega)];exact uh HN2)
     clear s3 k3 z3 u3
     refine ⟨_,rfl,⟨⟨_,_,_,uh HS3⟩,uh HK3⟩,?_⟩
     simp only [sA,sB]
     refine hT 10 29 rfl rfl ⟨⟨_,_,_,uh HS3⟩,uh HK3⟩ nPp (v:=?_) (fun x hSx=>?_) ?_
     rotate_left 1
     ·go_simp<;>with_reducible rfl
     simp only [sA,sB]
     have hc0:x3.cell? ⟨nb,0,none⟩=some (.int .i64 0):=by simp [World.cell?,uh HN3]
     have hc1:x3.cell? ⟨nb,1,none⟩=some (.int .i64 0):=by simp [World.cell?,uh HN3]
     have hf0:x3.frozen? ⟨nb,0,none⟩=false:=by simp [World.frozen?,uh HN3]
     have hf1:x3.frozen? ⟨nb,1,none⟩=false:=by simp [World.frozen?,uh HN3]
     have HD:=qz (z9z (i:Int) (bs i) (fun x o v h=>hset _ _ _ x nb o v h (by have:=uh HNB;omega) (uh HF)) (uh HS3) (uh HK3) (uh HN3) (by have:=uh HNB;omega) (by have:=uh HNB;omega))
     refine hKk 12 rfl rfl (w':=(x3.setCell ⟨nb,0,none⟩ (.int .i64 (i:Int))).setCell ⟨nb,1,none⟩ (.int .i64 (bs i))) ?_ ⟨⟨_,_,_,by obtain ⟨_,_,h,_⟩:=uh HD;exact h⟩,by obtain ⟨_,_,_,h,_⟩:=uh HD;exact h⟩ ?_
     ·first|(go_simp;done)|(go_simp<;>rfl)
     refine dN ?_
     go_wp2_with fail
     go_meet
     exact ⟨_,_,uh HP,by rw [World.size_setCell,World.size_setCell];exact (uh HZ3).2,uh HD⟩
   case rest =>
    obtain ⟨p',q',hp,hq,nb,rfl,hs,hk,hn,hn1,hn2⟩:=hcut
    have HP4:=qz hp
    have b0:wc.cell? ⟨H+1,0,none⟩=some (.int .i64 (bi i)):=by simp [World.cell?,hk.bb]
    have b1':wc.cell? ⟨H+1,1,none⟩=some (.int .i64 (bb i)):=by simp [World.cell?,hk.bb]
    have bf:∀o,wc.frozen? ⟨H+1,o,none⟩=false:=fun o=>by simp [World.frozen?,hk.bb]
    have n0:wc.cell? ⟨nb,0,none⟩=some (.int .i64 (i:Int)):=by simp [World.cell?,hn]
    have n1:wc.cell? ⟨nb,1,none⟩=some (.int .i64 (bs i)):=by simp [World.cell?,hn]
    have hx:=uh hbn i hin
    by_cases hi0:i=0
    ·rw [if_pos (.inl hi0)] at hx
     obtain ⟨e1,e2⟩:bi (i+1)=(i:Int)∧bb (i+1)=bs i:=⟨(Prod.mk.inj hx).1,(Prod.mk.inj hx).2⟩
     have HS4:Hid (S (i+1) p' q' ((wc.setCell ⟨H+1,0,none⟩ (.int .i64 (i:Int))).setCell ⟨H+1,1,none⟩ (.int .i64 (bs i)))):=qz (hset _ _ _ _ _ _ _ (hset _ _ _ _ _ _ _ hs (by omega) hp.2) (by omega) hp.2)
     have HR4:Hid (((wc.setCell ⟨H+1,0,none⟩ (.int .i64 (i:Int))).setCell ⟨H+1,1,none⟩ (.int .i64 (bs i))).heap[H]?=some (.cells #[.int .i64 0,.int .i64 0] 69 (0,0))):=qz (by rw [heap_setCell_other _ _ _ _ (by show H≠H+1;omega),heap_setCell_other _ _ _ _ (by show H≠H+1;omega)];exact hk.rb)
     have HB4:Hid (((wc.setCell ⟨H+1,0,none⟩ (.int .i64 (i:Int))).setCell ⟨H+1,1,none⟩ (.int .i64 (bs i))).heap[H+1]?=some (.cells #[.int .i64 (bi (i+1)),.int .i64 (bb (i+1))] 69 (0,0))):=qz (by rw [e1,e2,heap_setCell_same _ (H+1) 1 _ _ _ (heap_setCell_same _ (H+1) 0 _ _ _ hk.bb)];rfl)
     have HQ4:Hid (q'≤((wc.setCell ⟨H+1,0,none⟩ (.int .i64 (i:Int))).setCell ⟨H+1,1,none⟩ (.int .i64 (bs i))).heap.size):=qz (by rw [World.size_setCell,World.size_setCell];exact hq)
     clear e1 e2
     have z0:(bi i == 0)=true:=by rw [hi0,(uh hb0).1];rfl
     have z1:(bb i == 0)=true:=by rw [hi0,(uh hb0).2];rfl
     have z2:bi i=0:=by rw [hi0];exact (uh hb0).1
     have z3:bb i=0:=by rw [hi0];exact (uh hb0).2
     rw [z2] at b0
     rw [z3] at b1'
     clear hx hi0 z0 z1 z2 z3 hp
     clear hs hk hn hq
     go_wp2_with fail
     go_roundg (n-(i+1))
     case measure=>omega
     case rel=>exact ⟨i+1,p',q',rfl,by go_num,by omega,HS4,qz ⟨uh HP4,uh HQ4⟩,HR4,HB4⟩
    ·have hnz1:=uh hnz i (by omega) (by omega)
     by_cases hlt:bs i<bb i
     ·rw [if_pos (.inr hlt)] at hx
      obtain ⟨e1,e2⟩:bi (i+1)=(i:Int)∧bb (i+1)=bs i:=⟨(Prod.mk.inj hx).1,(Prod.mk.inj hx).2⟩
      have HS4:Hid (S (i+1) p' q' ((wc.setCell ⟨H+1,0,none⟩ (.int .i64 (i:Int))).setCell ⟨H+1,1,none⟩ (.int .i64 (bs i)))):=qz (hset _ _ _ _ _ _ _ (hset _ _ _ _ _ _ _ hs (by omega) hp.2) (by omega) hp.2)
      have HR4:Hid (((wc.setCell ⟨H+1,0,none⟩ (.int .i64 (i:Int))).setCell ⟨H+1,1,none⟩ (.int .i64 (bs i))).heap[H]?=some (.cells #[.int .i64 0,.int .i64 0] 69 (0,0))):=qz (by rw [heap_setCell_other _ _ _ _ (by show H≠H+1;omega),heap_setCell_other _ _ _ _ (by show H≠H+1;omega)];exact hk.rb)
      have HB4:Hid (((wc.setCell ⟨H+1,0,none⟩ (.int .i64 (i:Int))).setCell ⟨H+1,1,none⟩ (.int .i64 (bs i))).heap[H+1]?=some (.cells #[.int .i64 (bi (i+1)),.int .i64 (bb (i+1))] 69 (0,0))):=qz (by rw [e1,e2,heap_setCell_same _ (H+1) 1 _ _ _ (heap_setCell_same _ (H+1) 0 _ _ _ hk.bb)];rfl)
      have HQ4:Hid (q'≤((wc.setCell ⟨H+1,0,none⟩ (.int .i64 (i:Int))).setCell ⟨H+1,1,none⟩ (.int .i64 (bs i))).heap.size):=qz (by rw [World.size_setCell,World.size_setCell];exact hq)
      clear e1 e2
      clear hx hi0 hp
      clear hs hk hn hq
      go_wp2_with fail
      go_roundg (n-(i+1))
      case measure=>omega
      case rel=>exact ⟨i+1,p',q',rfl,by go_num,by omega,HS4,qz ⟨uh HP4,uh HQ4⟩,HR4,HB4⟩
     ·rw [if_neg (by omega)] at hx
      obtain ⟨e1,e2⟩:bi (i+1)=bi i∧bb (i+1)=bb i:=⟨(Prod.mk.inj hx).1,(Prod.mk.inj hx).2⟩
      have HS4:Hid (S (i+1) p' q' wc):=qz hs
      have HR4:Hid (wc.heap[H]?=some (.cells #[.int .i64 0,.int .i64 0] 69 (0,0))):=qz hk.rb
      have HB4:Hid (wc.heap[H+1]?=some (.cells #[.int .i64 (bi (i+1)),.int .i64 (bb (i+1))] 69 (0,0))):=qz (by rw [e1,e2];exact hk.bb)
      have HQ4:Hid (q'≤wc.heap.size):=qz hq
      clear e1 e2
      clear hx hi0 hp
      clear hs hk hn hq
      go_wp2_with fail
      go_roundg (n-(i+1))
      case measure=>omega
      case rel=>exact ⟨i+1,p',q',rfl,by go_num,by omega,HS4,qz ⟨uh HP4,uh HQ4⟩,HR4,HB4⟩
  ·obtain rfl:i=n:=by omega
   have r0:wr.cell? ⟨H,0,none⟩=some (.int .i64 0):=by simp [World.cell?,uh hr]
   have r1:wr.cell? ⟨H,1,none⟩=some (.int .i64 0):=by simp [World.cell?,uh hr]
   have rf:∀o,wr.frozen? ⟨H,o,none⟩=false:=fun o=>by simp [World.frozen?,uh hr]
   have b0:wr.cell? ⟨H+1,0,none⟩=some (.int .i64 (bi i)):=by simp [World.cell?,uh hb]
   have b2':wr.cell? ⟨H+1,1,none⟩=some (.int .i64 (bb i)):=by simp [World.cell?,uh hb]
   have HS5:Hid (S i p q ((wr.setCell ⟨H,0,none⟩ (.int .i64 (bi i))).setCell ⟨H,1,none⟩ (.int .i64 (bb i)))):=qz (hset _ _ _ _ _ _ _ (hset _ _ _ _ _ _ _ (uh hs) (Nat.le_refl _) (uh hu).1.1) (Nat.le_refl _) (uh hu).1.1)
   clear hs hr hb hu
   go_wp2_with fail
   refine bodyPost_ret (v:=.agg #[.int .i64 (bi i),.int .i64 (bb i)]) ?_ rfl ⟨rfl,p,q,uh HS5⟩
   rw [z2g rfl]
   go_simp
theorem z7f (n:Nat) (fns gns:Nat→Nat) (bs bi bb:Nat→Int) (S0:World→Prop) (S1:Nat→Nat→World→Prop) (pp pb gw off cp xb:Nat) (at_:Int) (w:World) (hn9:n≤9) (hn1:1≤n)
  (hb0:bi 0=0∧bb 0=0) (hbn:∀i,i<n→(bi (i+1),bb (i+1))=if i=0∨bs i<bb i then ((i:Int),bs i) else (bi i,bb i)) (hnz:∀i,0<i→i≤n→(bb i == 0)=false)
  (hcall:∀ (i:Nat) (args:Array Value) (x:World),Sem.run Tryz.prog (callFunc (fns i) args) x=.ok (.enter (fns i) args) x)
  (hway:∀x,S0 x→x.cell? ⟨pp,2,none⟩=some (.slice (some ⟨gw,off,none⟩) n cp))
  (hfn:∀i x,i<n→S0 x→x.cell? ⟨gw,off+i*2,none⟩=some (.func (.func (fns i)) #[] #[])∧x.cell? ⟨gw,off+i*2+1,none⟩=some (.func (.func (gns i)) #[] #[]))
  (hcell:∀x,S0 x→x.cell? ⟨pp,0,none⟩=some (.pointer (some ⟨pb,0,none⟩))) (hcell1:∀p q x,S1 p q x→x.cell? ⟨pp,0,none⟩=some (.pointer (some ⟨pb,0,none⟩)))
  (hsz:∀x,S0 x→w.heap.size≤x.heap.size) (halloc:∀x o,S0 x→S0 (x.alloc o)) (hset:∀x k o v,S0 x→w.heap.size≤k→S0 (x.setCell ⟨k,o,none⟩ v)) (hdrew:∀x m,S0 x→S0 (x.drewN m))
  (halloc1:∀p q x o,S1 p q x→S1 p q (x.alloc o)) (hset1:∀p q x k o v,S1 p q x→w.heap.size≤k→(k<p∨q≤k)→S1 p q (x.setCell ⟨k,o,none⟩ v)) (hdrew1:∀p q x m,S1 p q x→S1 p q (x.drewN m))
  (hlen:∀x,S0 x→Calls Tryz.prog 66 #[.pointer (some ⟨pb,0,none⟩)] x fun e x'=>e=.returned (.int .i64 at_)∧∃m,x'=x.drewN m)
  (hw0:∀i x,i+1<n→S0 x→Calls Tryz.prog (fns i) #[.pointer (some ⟨xb,0,none⟩),.int .i64 at_] x fun e x'=>e=.returned (.int .i64 (bs i))∧S0 x'∧Keep xb x x')
  (hw1:∀i x,i+1=n→S0 x→Calls Tryz.prog (fns i) #[.pointer (some ⟨xb,0,none⟩),.int .i64 at_] x fun e x'=>e=.returned (.int .i64 (bs i))∧S1 x.heap.size x'.heap.size x'∧Keep xb x x')
  (hxb:xb<w.heap.size) (h0:S0 w) :
  Calls Tryz.prog 30 #[.pointer (some ⟨pp,0,none⟩),.pointer (some ⟨xb,0,none⟩)] w fun e w'=>e=.returned (.agg #[.int .i64 (bi n),.int .i64 (bb n)])∧∃p q,S1 p q w':=by
 refine (x2p n fns bs bi bb gns (fun i p q x=>(i<n∧S0 x∧p=w.heap.size∧q=w.heap.size)∨(i=n∧S1 p q x)) pp pb gw off cp xb at_ w w.heap.size (qz rfl) hn9 hn1 (qz hb0) (qz hbn) (qz hnz) hcall ?_ ?_ ?_ ?_ ?_ ?_ ?_ ?_ hxb (.inl ⟨by omega,h0,rfl,rfl⟩)).mono ?_
 ·rintro x (⟨_,h,_⟩|⟨h,_⟩)
  ·exact hway x h
  ·omega
 ·rintro i p q x hi (⟨_,h,_⟩|⟨h,_⟩)
  ·exact hfn i x hi h
  ·omega
 ·rintro i p q x (⟨_,h,_⟩|⟨_,h⟩)
  ·exact hcell x h
  ·exact hcell1 p q x h
 ·rintro i p q x o (⟨h1,h,h2⟩|⟨h1,h⟩)
  ·exact .inl ⟨h1,halloc x o h,h2⟩
  ·exact .inr ⟨h1,halloc1 p q x o h⟩
 ·rintro i p q x k o v (⟨h1,h,h2⟩|⟨h1,h⟩) hk hpq
  ·exact .inl ⟨h1,hset x k o v h hk,h2⟩
  ·exact .inr ⟨h1,hset1 p q x k o v h hk hpq⟩
 ·rintro i p q x m (⟨h1,h,h2⟩|⟨h1,h⟩)
  ·exact .inl ⟨h1,hdrew x m h,h2⟩
  ·exact .inr ⟨h1,hdrew1 p q x m h⟩
 ·rintro i p q x hi (⟨_,h,_⟩|⟨h,_⟩)
  ·exact hlen x h
  ·omega
 ·rintro i p q x hi (⟨_,h,rfl,rfl⟩|⟨h,_⟩)
  ·by_cases h1:i+1<n
   ·refine (hw0 i x h1 h).mono ?_
    rintro e x' ⟨rfl,k1,k2⟩
    exact ⟨rfl,k2,_,_,.inl ⟨h1,k1,rfl,rfl⟩,hsz x' k1,fun k _ _ hk=>hk⟩
   ·refine (hw1 i x (by omega) h).mono ?_
    rintro e x' ⟨rfl,k1,k2⟩
    exact ⟨rfl,k2,_,_,.inr ⟨by omega,k1⟩,Nat.le_refl _,fun k hk _ _=>.inl hk⟩
  ·omega
 ·rintro e w' ⟨rfl,p,q,⟨h,_⟩|⟨_,h⟩⟩
  ·omega
  ·exact ⟨rfl,p,q,h⟩
end W4
namespace W4
open Go.RowKit Mth Infl Defl
theorem x5w (x:World) (a b:Int):(Instr.field 69 (.agg #[.int .i64 a,.int .i64 b]) 0).run Tryz.prog x=.ok (.int .i64 a) x:=by kernel_rfl
theorem x3p (pp pb gw c1 c2 from_ n:Nat) (a:Option Addr) (c:Nat) (pa:Option Addr) (pc:Nat) (zs:List Nat) (last:Bool) (w:World) (v0:Value) (m f:Nat) (L:List Bool) (hp:z1w w pp pb 1 gw c1 c2) (hw:WOk w pb false v0 m L f) (hf:f≤7)
  (hS1:Safe w v0 pb pp) (hS2:Safe w v0 pb gw)
  (hsl:∀x,(Instr.slice 22 (.slice a n c) (some (.int .i64 (from_:Int))) none none).run Tryz.prog x=.ok (.slice pa zs.length pc) x)
  (hr:(pa=none∧pc=0∧zs=[])∨∃ad,pa=some ad∧(zs=[]∨Safe w v0 pb ad.block)∧∀ (j:Nat) u,(zs.map bv)[j]?=some u→w.cell? (ad.add j)=some u) (hz:∀z∈zs,z<256) (hn:zs.length≤65535) (hb:L.length≤900000000000000) :
  Calls Tryz.prog 12 #[.pointer (some ⟨pp,0,none⟩),.slice a n c,.int .i64 (from_:Int),.bool last] w fun e w'=>e=.returned (.tuple #[])∧WrAt w v0 pb (L++z1j zs last.toNat L.length) w':=by
 obtain ⟨N,hN⟩:∃N,N=zs.length:=⟨_,rfl⟩
 have HN:=qz hN
 rw [←hN] at hsl hn
 clear hN
 have HPW:Hid (∀x xb,Below w.heap.size w x→z3j x xb last (.slice pa N pc) (.slice none 0 0) (.pointer (some ⟨c1,0,none⟩)) (.pointer (some ⟨c2,0,none⟩)) (.pointer none)→w.heap.size≤xb→Calls Tryz.prog 21 #[.pointer (some ⟨xb,0,none⟩),.pointer (some ⟨pb,0,none⟩)] x fun e w'=>e=.returned (.tuple #[])∧WrAt w v0 pb (L++z1j zs last.toNat L.length) w'∧WrAt x v0 pb (L++z1j zs last.toNat L.length) w'):=qz (fun x xb hbx hx hxb=>by
  have hwx:WOk x pb false v0 m L f:=hw.below hbx
  have sf:∀k,Safe w v0 pb k→Safe x v0 pb k:=fun k hk=>⟨Nat.lt_of_lt_of_le hk.1 hbx.size,hk.2.1,hk.2.2⟩
  rw [uh HN] at hx
  refine (y0s xb pb zs pa pc last _ _ _ _ x x v0 L ⟨v0,m,f,hwx,hf,Chg.refl _ _ _⟩ ⟨z0b hx,by have:=hw.lt;omega,fun e=>by have:=(hw.row.lt xb e).2;omega⟩ hx ?_ hz (by rw [←uh HN];exact hn) hb).mono ?_
  ·rcases hr with h1|⟨ad,h1,h2,h3⟩
   ·exact .inl h1
   ·exact .inr ⟨ad,h1,h2.imp id (sf _),fun j u hj=>z0a hbx (h3 j u hj)⟩
  ·rintro e w' ⟨rfl,v',m',f',k1,k2,k3⟩
   exact ⟨rfl,⟨v',m',f',k1,k2,(Chg.of_below hbx).trans k3⟩,⟨v',m',f',k1,k2,k3⟩⟩)
 have HCH:Hid (∀x xb,Below w.heap.size w x→z1w x pp pb 1 gw c1 c2→z3j x xb last (.slice pa N pc) (.slice none 0 0) (.pointer (some ⟨c1,0,none⟩)) (.pointer (some ⟨c2,0,none⟩)) (.pointer none)→Calls Tryz.prog 30 #[.pointer (some ⟨pp,0,none⟩),.pointer (some ⟨xb,0,none⟩)] x fun e w'=>e=.returned (.agg #[.int .i64 0,.int .i64 (z0o N L.length:Int)])∧Below x.heap.size x w'):=qz (fun x xb hbx hpx hx=>by
  have hwx:WOk x pb false v0 m L f:=hw.below hbx
  have hpp:=z0b hpx.1
  have hgw:=z0b hpx.2
  have key:∀y,Below x.heap.size x y→y.heap[pp]?=x.heap[pp]?∧y.heap[gw]?=x.heap[gw]?∧y.heap[xb]?=x.heap[xb]?:=fun y hy=>⟨hy.block _ hpp,hy.block _ hgw,hy.block _ (z0b hx)⟩
  refine (z7f 1 (fun _=>20) (fun _=>21) (fun _=>(z0o N L.length:Int)) (fun _=>0) (fun i=>if i=0 then 0 else (z0o N L.length:Int)) (fun y=>Below x.heap.size x y) (fun _ _ y=>Below x.heap.size x y) pp pb gw 0 3 xb (L.length:Int) x (by omega) (by omega) ⟨rfl,rfl⟩ ?_ ?_ (fun _=>Tryz.call20) ?_ ?_ ?_ ?_ (fun y hy=>hy.size) (fun y o hy=>hy.alloc hy.size _) (fun y k o v hy hk=>hy.setCell hk _) (fun y q hy=>below_drewN hy q) (fun _ _ y o hy=>hy.alloc hy.size _) (fun _ _ y k o v hy hk _=>hy.setCell hk _) (fun _ _ y q hy=>below_drewN hy q) ?_ ?_ ?_ (z0b hx) (Below.refl _ _)).mono fun e w' ⟨h1,_,_,h2⟩=>⟨h1,h2⟩
  ·intro i hi;obtain rfl:i=0:=by omega
   simp
  ·intro i h1 h2
   rw [if_neg (by omega),beq_eq_false_iff_ne]
   unfold z0o
   omega
  ·intro y hy;simp only [World.cell?,(key y hy).1,hpx.1];rfl
  ·intro i y hi hy;obtain rfl:i=0:=by omega
   constructor<;>(simp only [World.cell?,(key y hy).2.1,hpx.2];rfl)
  ·intro y hy;simp only [World.cell?,(key y hy).1,hpx.1];rfl
  ·intro _ _ y hy;simp only [World.cell?,(key y hy).1,hpx.1];rfl
  ·intro y hy
   exact y3r pb m f false v0 L y (hwx.below hy) (by omega) hf
  ·intro i y hi hy;omega
  ·intro i y hi hy
   have hxy:z3j y xb last (.slice pa N pc) (.slice none 0 0) (.pointer (some ⟨c1,0,none⟩)) (.pointer (some ⟨c2,0,none⟩)) (.pointer none):=by unfold z3j;rw [(key y hy).2.2];exact hx
   refine (z8a xb L.length N pa pc last _ _ _ _ y hxy hn (by omega)).mono ?_
   rintro e y' ⟨rfl,rfl⟩
   exact ⟨rfl,hy,Nat.le_refl _,fun _ _ _=>rfl⟩)
 have HSF:Hid (∀x w',Below w.heap.size w x→z1w x pp pb 1 gw c1 c2→WrAt x v0 pb (L++z1j zs last.toNat L.length) w'→z1w w' pp pb 1 gw c1 c2):=qz (fun x w' hbx hpx h=>by
  have sf:∀k,Safe w v0 pb k→Safe x v0 pb k:=fun k hk=>⟨Nat.lt_of_lt_of_le hk.1 hbx.size,hk.2.1,hk.2.2⟩
  exact ⟨by rw [h.block (sf _ hS1)];exact hpx.1,by rw [h.block (sf _ hS2)];exact hpx.2⟩)
 obtain ⟨hp1,hp2⟩:=hp
 clear hw hf hS1 hS2 hr hz hb
 have p1:w.cell? ⟨pp,1,none⟩=some (.int .i64 1):=by simp [World.cell?,hp1]
 go_enter Tryz.func12,Tryz.ntmps12
 go_wp2_with fail
 refine wp_region_noPanic ?_
 refine wp_region_held_drew (S:=fun x=>z1w x pp pb 1 gw c1 c2) (by kernel_rfl) ⟨hp1,hp2⟩ (fun hHeld=>?_)
 refine hT 0 9 rfl rfl hHeld nPp (v:=?_) (fun x hSx=>?_) ?_
 rotate_left 1
 ·go_simp<;>with_reducible rfl
 simp only [sA,sB]
 refine hT 1 10 rfl rfl hHeld nPp (v:=?_) (fun x hSx=>?_) ?_
 rotate_left 1
 ·go_simp<;>with_reducible rfl
 simp only [sA,sB]
 refine hT 2 11 rfl rfl hHeld nPp (v:=?_) (fun x hSx=>?_) ?_
 rotate_left 1
 ·go_simp<;>with_reducible rfl
 simp only [sA,sB]
 refine hT 3 12 rfl rfl hHeld nPp (v:=?_) (fun x hSx=>?_) ?_
 rotate_left 1
 ·go_simp<;>with_reducible rfl
 simp only [sA,sB]
 refine hT 4 13 rfl rfl hHeld nPp (v:=?_) (fun x hSx=>?_) ?_
 rotate_left 1
 ·go_simp<;>with_reducible rfl
 simp only [sA,sB]
 refine hT 5 14 rfl rfl hHeld nPp (v:=?_) (fun x hSx=>?_) ?_
 rotate_left 1
 ·go_simp<;>with_reducible rfl
 simp only [sA,sB]
 refine hT 6 15 rfl rfl hHeld nPp (v:=?_) (fun x hSx=>?_) ?_
 rotate_left 1
 ·go_simp<;>with_reducible rfl
 simp only [sA,sB]
 refine hT 7 16 rfl rfl hHeld nPp (v:=?_) (fun x hSx=>?_) ?_
 rotate_left 1
 ·have q3:x.cell? ⟨pp,3,none⟩=some (.pointer (some ⟨c1,0,none⟩)):=(by simp [World.cell?,hSx.1]);have q4:x.cell? ⟨pp,4,none⟩=some (.pointer (some ⟨c2,0,none⟩)):=(by simp [World.cell?,hSx.1]);clear hSx;go_simp<;>with_reducible rfl
 simp only [sA,sB]
 refine hT 8 17 rfl rfl hHeld nPp (v:=?_) (fun x hSx=>?_) ?_
 rotate_left 1
 ·go_simp<;>with_reducible rfl
 simp only [sA,sB]
 refine hO 9 18 rfl rfl (v:=.pointer (some ⟨w.heap.size,0,none⟩)) (w':=(w.alloc (.cells #[.bool last,.slice pa N pc,.slice none 0 0,.pointer (some ⟨c1,0,none⟩),.pointer (some ⟨c2,0,none⟩),.pointer none] 65)).drew) ?_ ?_ ?_
 ·first|(go_simp;done)|(go_simp<;>first|exact ⟨rfl,rfl⟩|rfl)
 ·exact ⟨by show (w.alloc _).heap[pp]?=_;rw [Below.heap_alloc _ _ _ (z0b hp1)];exact hp1,by show (w.alloc _).heap[gw]?=_;rw [Below.heap_alloc _ _ _ (z0b hp2)];exact hp2⟩
 simp only [sA,sB]
 obtain ⟨xb,hxb⟩:∃xb,xb=w.heap.size:=⟨_,rfl⟩
 obtain ⟨W1,hW1⟩:∃W1,W1=(w.alloc (.cells #[.bool last,.slice pa N pc,.slice none 0 0,.pointer (some ⟨c1,0,none⟩),.pointer (some ⟨c2,0,none⟩),.pointer none] 65)).drew:=⟨_,rfl⟩
 have HX1:Hid (z3j W1 xb last (.slice pa N pc) (.slice none 0 0) (.pointer (some ⟨c1,0,none⟩)) (.pointer (some ⟨c2,0,none⟩)) (.pointer none)):=qz (by rw [hW1,hxb];exact heap_alloc_new _ _)
 have HB1:Hid (Below w.heap.size w W1):=qz (by rw [hW1];exact below_drewN ((Below.refl _ _).alloc (Nat.le_refl _) _) 1)
 have HP1:Hid (z1w W1 pp pb 1 gw c1 c2):=qz ⟨by rw [(uh HB1).block pp (z0b hp1)];exact hp1,by rw [(uh HB1).block gw (z0b hp2)];exact hp2⟩
 rw [←hW1,←hxb]
 have HXB:=qz hxb
 clear hW1 hxb hHeld
 refine hO 10 8 rfl rfl (v:=.pointer (some ⟨xb,0,none⟩)) (w':=W1) ?_ (uh HP1) ?_
 ·first|(go_simp;done)|(go_simp<;>first|exact ⟨rfl,rfl⟩|rfl)
 simp only [sA,sB]
 refine dN ?_
 have p1:W1.cell? ⟨pp,1,none⟩=some (.int .i64 1):=by simp [World.cell?,(uh HP1).1]
 go_wp2_with fail
 refine wp_region_noPanic ?_
 refine wp_region_held_drew (S:=fun x=>z1w x pp pb 1 gw c1 c2) (by kernel_rfl) (uh HP1) (fun hHeld=>?_)
 obtain ⟨W2,hW2⟩:∃W2,W2=W1.drew:=⟨_,rfl⟩
 have HB2:Hid (Below w.heap.size w W2):=qz (by rw [hW2];exact below_drewN (uh HB1) 1)
 have HX2:Hid (z3j W2 xb last (.slice pa N pc) (.slice none 0 0) (.pointer (some ⟨c1,0,none⟩)) (.pointer (some ⟨c2,0,none⟩)) (.pointer none)):=qz (by rw [hW2];exact uh HX1)
 show wpAnyH _ _ _ _ _ _ _ _ W1.drew
 rw [←hW2] at hHeld ⊢
 clear hW2 HX1 HB1 p1 HP1
 refine hT 0 33 rfl rfl hHeld nPp (v:=?_) (fun x hSx=>?_) ?_
 rotate_left 1
 ·go_simp<;>with_reducible rfl
 simp only [sA,sB]
 refine hT 1 34 rfl rfl hHeld nPp (v:=?_) (fun x hSx=>?_) ?_
 rotate_left 1
 ·go_simp<;>with_reducible rfl
 simp only [sA,sB]
 refine hT 2 35 rfl rfl hHeld nPp (v:=?_) (fun x hSx=>?_) ?_
 rotate_left 1
 ·go_simp<;>with_reducible rfl
 simp only [sA,sB]
 refine hT 3 36 rfl rfl hHeld nPp (v:=?_) (fun x hSx=>?_) ?_
 rotate_left 1
 ·have q2:x.cell? ⟨pp,2,none⟩=some (.slice (some ⟨gw,0,none⟩) 1 3):=(by simp only [World.cell?,hSx.1];rfl);clear hSx;go_simp<;>with_reducible rfl
 simp only [sA,sB]
 refine hT 4 37 rfl rfl hHeld nPp (v:=?_) (fun x hSx=>?_) ?_
 rotate_left 1
 ·go_simp<;>with_reducible rfl
 simp only [sA,sB]
 refine hT 5 38 rfl rfl hHeld nPp (v:=?_) (fun x hSx=>?_) ?_
 rotate_left 1
 ·go_simp<;>with_reducible rfl
 simp only [sA,sB]
 refine hT 11 44 rfl rfl hHeld nPp (v:=?_) (fun x hSx=>?_) ?_
 rotate_left 1
 ·go_simp<;>with_reducible rfl
 simp only [sA,sB]
 refine hT 12 45 rfl rfl hHeld nPp (v:=?_) (fun x hSx=>?_) ?_
 rotate_left 1
 ·go_simp<;>with_reducible rfl
 simp only [sA,sB]
 refine hT 13 46 rfl rfl hHeld nPp (v:=?_) (fun x hSx=>?_) ?_
 rotate_left 1
 ·go_simp<;>with_reducible rfl
 simp only [sA,sB]
 refine hT 14 47 rfl rfl hHeld nPp (v:=?_) (fun x hSx=>?_) ?_
 rotate_left 1
 ·go_simp<;>with_reducible rfl
 simp only [sA,sB]
 refine hT 15 48 rfl rfl hHeld nPp (v:=?_) (fun x hSx=>?_) ?_
 rotate_left 1
 ·have q0:x.cell? ⟨pp,0,none⟩=some (.pointer (some ⟨pb,0,none⟩)):=(by simp only [World.cell?,hSx.1];rfl);clear hSx;go_simp<;>with_reducible rfl
 simp only [sA,sB]
 refine z0u 6 39 (by kernel_rfl) rfl rfl (by rfl) (by go_simp<;>exact ⟨rfl,rfl⟩) ?_
 refine (uh HCH W2 xb (uh HB2) hHeld (uh HX2)).mono ?_
 rintro e W3 ⟨rfl,b3⟩
 have HP3:Hid (z1w W3 pp pb 1 gw c1 c2):=qz ⟨by rw [b3.block _ (z0b hHeld.1)];exact hHeld.1,by rw [b3.block _ (z0b hHeld.2)];exact hHeld.2⟩
 have HB3:Hid (Below w.heap.size w W3):=qz ((uh HB2).trans (b3.mono (uh HB2).size))
 have HX3:Hid (z3j W3 xb last (.slice pa N pc) (.slice none 0 0) (.pointer (some ⟨c1,0,none⟩)) (.pointer (some ⟨c2,0,none⟩)) (.pointer none)):=qz (by unfold z3j;rw [b3.block _ (z0b (uh HX2))];exact uh HX2)
 clear b3
 refine ⟨_,rfl,uh HP3,?_⟩
 simp only [sA,sB]
 have fld:=fun x=>x5w x 0 (z0o N L.length:Int)
 refine hT 7 40 rfl rfl (uh HP3) nPp (v:=?_) (fun x hSx=>?_) ?_
 rotate_left 1
 ·go_simp<;>with_reducible rfl
 simp only [sA,sB]
 refine hT 8 41 rfl rfl (uh HP3) nPp (v:=?_) (fun x hSx=>?_) ?_
 rotate_left 1
 ·go_simp<;>with_reducible rfl
 simp only [sA,sB]
 refine hT 9 42 rfl rfl (uh HP3) nPp (v:=?_) (fun x hSx=>?_) ?_
 rotate_left 1
 ·go_simp<;>with_reducible rfl
 simp only [sA,sB]
 refine hT 10 43 rfl rfl (uh HP3) nPp (v:=?_) (fun x hSx=>?_) ?_
 rotate_left 1
 ·have q1:x.cell? ⟨gw,1,none⟩=some (.func (.func 21) #[] #[]):=(by simp only [World.cell?,hSx.2];rfl);clear hSx;go_simp<;>with_reducible rfl
 simp only [sA,sB]
 refine z0u 16 49 (by kernel_rfl) rfl rfl (by rfl) (by go_simp<;>exact ⟨rfl,rfl⟩) ?_
 refine (uh HPW W3 xb (uh HB3) (uh HX3) (by rw [uh HXB];exact Nat.le_refl _)).mono ?_
 rintro e W4 ⟨rfl,k1,k2⟩
 have HK1:=qz k1
 refine ⟨_,rfl,uh HSF W3 W4 (uh HB3) (uh HP3) k2,?_⟩
 simp only [sA,sB]
 clear k1 k2
 refine dN ?_
 go_wp2_with fail
 go_end0
 exact ⟨rfl,uh HK1⟩
end W4
namespace W4
open Go.RowKit Mth Infl Defl
theorem x3s (b off e c fr:Nat) (h:fr<e) (h2:e≤c) (h3:c≤9223372036854775807) (x:World):(Instr.slice 22 (.slice (some ⟨b,off,none⟩) e c) (some (.int .i64 (fr:Int))) none none).run Tryz.prog x=.ok (.slice (some ⟨b,off+fr,none⟩) (e-fr) (c-fr)) x:=by
 have e1:(fr:Int)<(e:Int):=by omega
 have e2:(fr:Int)≤(e:Int):=by omega
 have e3:(e:Int)≤(c:Int):=by omega
 have e4:¬c=fr:=by omega
 go_simp
theorem x3t (a:Option Addr) (c:Nat) (x:World):(Instr.slice 22 (.slice a 0 c) (some (.int .i64 0)) none none).run Tryz.prog x=.ok (.slice a 0 c) x:=by
 go_simp
def z2a (w:World) (a:Option Addr) (c:Nat) (zs:List Nat):Prop:=(a=none∧c=0∧zs=[])∨∃ad,a=some ad∧∀ (j:Nat) u,(zs.map bv)[j]?=some u→w.cell? (ad.add j)=some u
theorem z2a.spot {w:World} {a:Option Addr} {c:Nat} {zs:List Nat} (h:z2a w a c zs) (h0:0<zs.length):∃b off,a=some ⟨b,off,none⟩∧b<w.heap.size∧∀j,j<zs.length→w.cell? ⟨b,off+j,none⟩=some (bv (zs.getD j 0)):=by
 rcases h with ⟨_,_,rfl⟩|⟨ad,rfl,hc⟩
 ·simp at h0
 ·have h1:=hc 0 (bv zs[0]) (by simp [h0])
  have hsp:ad.spot=none:=by
   cases hs:ad.spot with
   | none=>rfl
   | some x =>
    exfalso
    rw [show ad.add 0=ad by simp [Addr.add]] at h1
    unfold World.cell? at h1
    split at h1
    ·rw [hs] at h1;simp at h1
    ·cases h1
  obtain ⟨b,off,sp⟩:=ad
  simp only at hsp
  subst hsp
  refine ⟨b,off,rfl,?_,fun j hj=>?_⟩
  ·have:=z1e h1
   rwa [add_block] at this
  ·have h2:=hc j (bv zs[j]) (by simp [hj])
   have ea:(⟨b,off,none⟩:Addr).add j=⟨b,off+j,none⟩:=by by_cases hq:j=0<;>simp [Addr.add,hq]
   rw [ea] at h2
   rw [h2]
   simp [hj]
theorem w1r (zs:List Nat) (k:Nat) (tk:Nat→Nat→List T) (pl:List T→List Nat × List Nat × List Nat) (fr p:Nat):ownB zs k 1 tk pl fr p=z1j (piece zs k fr) (lastOf zs k fr) p:=by
 unfold ownB pick
 rw [if_pos rfl]
theorem z2r (zs:List Nat) (k fr:Nat):(piece zs k fr).length=ende zs k fr-fr:=by
 unfold piece
 rw [List.length_drop,List.length_take]
 have:ende zs k fr≤zs.length:=by unfold ende;omega
 rw [Nat.min_eq_left this]
theorem x7y (zs:List Nat) (k fr j:Nat) (h:j<(piece zs k fr).length):(piece zs k fr)[j]?=some (zs.getD (fr+j) 0):=by
 have h2:=h
 rw [z2r] at h2
 have h3:ende zs k fr≤zs.length:=by unfold ende;omega
 unfold piece
 rw [List.getElem?_drop,List.getElem?_take,if_pos (by omega),List.getElem?_eq_getElem (by omega)]
 simp [List.getD_eq_getElem?_getD,show fr+j<zs.length by omega]
theorem z7q {w x:World} {kind pp pb gw c1 c2 lo hi:Nat} {v0:Value} {zs:List Nat} {a:Option Addr} {c k fr:Nat} (ht:z2a w a c zs) (hc:zs.length≤c) (hcM:c≤9223372036854775807) (hk:1≤k) (he:Env w x kind pp pb gw c1 c2 lo hi v0) (hfr:fr<zs.length∨fr=0) :
  ∃pa pc,(∀y,(Instr.slice 22 (.slice a (ende zs k fr) c) (some (.int .i64 (fr:Int))) none none).run Tryz.prog y=.ok (.slice pa (piece zs k fr).length pc) y) ∧
   ((pa=none∧pc=0∧piece zs k fr=[])∨∃ad,pa=some ad∧(piece zs k fr=[]∨Safe x v0 pb ad.block)∧∀ (j:Nat) u,((piece zs k fr).map bv)[j]?=some u→x.cell? (ad.add j)=some u):=by
 have hpl:=z2r zs k fr
 rcases Nat.eq_zero_or_pos zs.length with h0|h0
 ·have h1:zs=[]:=List.length_eq_zero_iff.1 h0
  obtain rfl:fr=0:=by omega
  have hen:ende zs k 0=0:=by unfold ende;omega
  have hp0:piece zs k 0=[]:=List.length_eq_zero_iff.1 (by rw [hpl,hen])
  rw [hen,hp0]
  refine ⟨a,c,fun y=>x3t a c y,?_⟩
  rcases ht with ⟨q1,q2,_⟩|⟨ad,q1,_⟩
  ·exact .inl ⟨q1,q2,rfl⟩
  ·exact .inr ⟨ad,q1,.inl rfl,fun j u hj=>by simp at hj⟩
 ·obtain ⟨b,off,rfl,hb,hcell⟩:=ht.spot h0
  have hfe:fr<ende zs k fr:=by unfold ende;omega
  have hec:ende zs k fr≤zs.length:=by unfold ende;omega
  refine ⟨some ⟨b,off+fr,none⟩,c-fr,fun y=>by rw [hpl];exact x3s b off _ c fr hfe (by omega) hcM y,.inr ⟨_,rfl,.inr ⟨Nat.lt_of_lt_of_le hb he.bel.size,by show b≠pb;have:=he.wpb;omega,fun e=>by have:=he.row b e;omega⟩,fun j u hj=>?_⟩⟩
  have hjl:j<(piece zs k fr).length:=by
   rcases Nat.lt_or_ge j (piece zs k fr).length with h|h
   ·exact h
   ·rw [List.getElem?_eq_none (by simpa using h)] at hj;cases hj
  rw [List.getElem?_map,x7y zs k fr j hjl] at hj
  simp only [Option.map_some,Option.some.injEq] at hj
  have ea:(⟨b,off+fr,none⟩:Addr).add j=⟨b,off+(fr+j),none⟩:=by by_cases hq:j=0<;>simp [Addr.add,hq,Nat.add_assoc]
  rw [ea,←hj]
  exact z0a he.bel (hcell (fr+j) (by omega))
theorem x8f (zs:List Nat) (a:Option Addr) (c k:Nat) (tk:Nat→Nat→List T) (pl:List T→List Nat × List Nat × List Nat) (w:World) (ht:z2a w a c zs) (hz:∀z∈zs,z<256) (hc:zs.length≤c) (hcM:c≤9223372036854775807) (hk1:1≤k) (hk2:k≤65535):x4q 1 zs k tk pl a c w:=by
 intro x v0 m f L pp pb gw c1 c2 lo hi fr e last he hw hf hL hen hlast hfr
 obtain ⟨pa,pc,h1,h2⟩:=z7q (k:=k) ht hc hcM hk1 he hfr
 subst hen hlast
 have hll:lastOf zs k fr=(decide (zs.length≤fr+k)).toNat:=by unfold lastOf;by_cases h:zs.length≤fr+k<;>simp [h]
 rw [w1r,hll]
 exact x3p pp pb gw c1 c2 fr _ a c pa pc (piece zs k fr) _ x v0 m f L he.pack hw hf he.spp he.sgw h1 h2 (fun z hz'=>hz z (List.mem_of_mem_take (List.mem_of_mem_drop hz'))) (by rw [z2r];unfold ende;omega) (by omega)
end W4
namespace W4
open Go.RowKit Mth Infl Defl
def toT (t:T6.Tok):T:=⟨t.n.toNat,t.d.toNat,t.b⟩
theorem x8i (zs:List Nat) (q:Nat) (h:q<zs.length):zs.take (q+1)=zs.take q++[zs.getD q 0]:=by
 rw [List.take_add_one,List.getElem?_eq_getElem h]
 simp [List.getD_eq_getElem?_getD,List.getElem?_eq_getElem h]
theorem y9s (zs:List Nat) (q i:Nat) (h:i<q):(zs.take q).getD i 0=zs.getD i 0:=by
 simp [List.getD_eq_getElem?_getD,h]
theorem w6i {zs:List Nat} {q d:Nat} (hd:1≤d) (hq:d≤q):∀n,q+n≤zs.length→T6.Eqs (T6.zf zs) q d n→cp d n (zs.take q)=zs.take (q+n)
 | 0,_,_=>rfl
 | n+1,hl,he=>by
  have ih:=w6i hd hq n (by omega) (he.mono (by omega))
  rw [cp,ih,show q+(n+1)=(q+n)+1 by omega,x8i zs (q+n) (by omega)]
  have hlen:(zs.take (q+n)).length=q+n:=by simp;omega
  rw [hlen,y9s _ _ _ (by omega)]
  have:=he n (by omega)
  simp only [T6.zf] at this
  rw [this]
theorem w6j {zs:List Nat} {q q':Nat} {t:T6.Tok} (hz:∀z∈zs,z<256) (hq:q<zs.length) (h:T6.z8b zs 32768 3 258 q t q') :
  (toT t).ok (zs.take q)∧(toT t).ext (zs.take q)=zs.take q'∧t.n=((toT t).n:Int)∧t.d=((toT t).d:Int):=by
 obtain ⟨n,d,hb,h⟩:=h
 have hle:=hb.le
 rcases h with ⟨h1,rfl,rfl⟩|⟨h1,rfl,rfl⟩
 ·rcases hb.one with ⟨e,_⟩|⟨k1,k2,k3,k4,_⟩
  ·omega
  ·have hlen:(zs.take q).length=q:=by simp;omega
   refine ⟨.inr ⟨?_,?_,?_,?_,?_⟩,?_,?_,?_⟩
   ·show 3≤(n:Int).toNat;omega
   ·show (n:Int).toNat≤258;omega
   ·show 1≤(d:Int).toNat;omega
   ·show (d:Int).toNat≤32768;omega
   ·show (d:Int).toNat≤(zs.take q).length;omega
   ·unfold T.ext
    rw [if_neg (by show ¬ (n:Int).toNat=0;omega)]
    exact w6i (d:=d) k2 (by omega) n (by omega) k4
   ·show (n:Int)=(((n:Int).toNat:Nat):Int);omega
   ·show (d:Int)=(((d:Int).toNat:Nat):Int);omega
 ·refine ⟨.inl ⟨rfl,?_⟩,?_,rfl,rfl⟩
  ·show zs.getD q 0<256
   rw [List.getD_eq_getElem?_getD,List.getElem?_eq_getElem hq]
   exact hz _ (List.getElem_mem hq)
  ·unfold T.ext
   rw [if_pos (by rfl)]
   exact (x8i zs q hq).symm
theorem x8h (t:T):∀ (ts:List T) (out:List Nat),exts out (ts++[t])=t.ext (exts out ts)
 | [],out=>rfl
 | a :: ts,out=>x8h t ts (a.ext out)
theorem w3h (t:T):∀ (ts:List T) (out:List Nat),Oks out ts→t.ok (exts out ts)→Oks out (ts++[t])
 | [],out,_,h=>⟨h,trivial⟩
 | a :: ts,out,h,h2=>⟨h.1,w3h t ts (a.ext out) h.2 h2⟩
theorem y2j {zs:List Nat} {p q:Nat} {l:List T6.Tok} (hz:∀z∈zs,z<256) (h:T6.Parsed zs 32768 3 258 p l q):Oks (zs.take p) (l.map toT)∧exts (zs.take p) (l.map toT)=zs.take q∧∀t∈l,t.n=((toT t).n:Int)∧t.d=((toT t).d:Int):=by
 induction h with
 | nil=>exact ⟨trivial,rfl,fun t ht=>by simp at ht⟩
 | @snoc ts q t q' h hq ht ih =>
  obtain ⟨i1,i2,i3⟩:=ih
  obtain ⟨e1,e2,e3,e4⟩:=w6j hz hq ht
  rw [List.map_append,List.map_singleton]
  refine ⟨w3h _ _ _ i1 (by rw [i2];exact e1),by rw [x8h,i2,e2],fun t' ht'=>?_⟩
  rw [List.mem_append,List.mem_singleton] at ht'
  rcases ht' with h'|rfl
  ·exact i3 t' h'
  ·exact ⟨e3,e4⟩
theorem y2i (zs:List Nat) (p:Nat):∀ (k q:Nat) (l:List T6.Tok),T6.Parsed zs 32768 3 258 p l q→zs.length-q≤k→q≤zs.length→∃l',T6.Parsed zs 32768 3 258 p l' zs.length
 | 0,q,l,h,hk,hq=>⟨l,by rw [show zs.length=q by omega];exact h⟩
 | k+1,q,l,h,hk,hq=>by
  by_cases e:q=zs.length
  ·exact ⟨l,by rw [←e];exact h⟩
  ·have hlt:q<zs.length:=by omega
   obtain ⟨n,d,hb⟩:=T6.IsBest.has (T6.zf zs) q (min 258 (zs.length-q)) (min q 32768)
   obtain ⟨t,q',ht⟩:∃t q',T6.z8b zs 32768 3 258 q t q':=by
    by_cases h3:3≤n
    ·exact ⟨_,_,n,d,hb,.inl ⟨h3,rfl,rfl⟩⟩
    ·exact ⟨_,_,n,d,hb,.inr ⟨by omega,rfl,rfl⟩⟩
   have hl:=ht.le hlt (by omega)
   exact y2i zs p k q' _ (.snoc h hlt ht) (by omega) hl.2
theorem x3l (zs:List Nat) (p:Nat) (hp:p≤zs.length):∃l,T6.Parsed zs 32768 3 258 p l zs.length:=y2i zs p (zs.length-p) p [] .nil (Nat.le_refl _) hp
open Classical in
noncomputable def tkOf (zs:List Nat) (a e:Nat):List T:=if h:∃l,T6.Parsed (zs.take e) 32768 3 258 a l (zs.take e).length then (Classical.choose h).map toT else []
theorem x0h {zs:List Nat} {a e:Nat} {l:List T6.Tok} (h:T6.Parsed (zs.take e) 32768 3 258 a l (zs.take e).length):tkOf zs a e=l.map toT:=by
 unfold tkOf
 rw [dif_pos ⟨l,h⟩]
 congr 1
 exact (Classical.choose_spec (⟨l,h⟩:∃l,T6.Parsed (zs.take e) 32768 3 258 a l (zs.take e).length)).eq h
theorem y2s {zs:List Nat} (hz:∀z∈zs,z<256) {a e:Nat} (hae:a≤e) (he:e≤zs.length):Oks (zs.take a) (tkOf zs a e)∧exts (zs.take a) (tkOf zs a e)=zs.take e∧(tkOf zs a e).length+a≤e:=by
 have hlen:(zs.take e).length=e:=by simp;omega
 obtain ⟨l,hl⟩:=x3l (zs.take e) a (by omega)
 rw [x0h hl]
 obtain ⟨h1,h2,_⟩:=y2j (fun z h=>hz z (List.mem_of_mem_take h)) hl
 have ht:(zs.take e).take a=zs.take a:=by rw [List.take_take,Nat.min_eq_left hae]
 rw [ht] at h1 h2
 have h3:=(hl.len (by omega) (by omega)).1
 rw [hlen] at h3
 refine ⟨h1,?_,by simpa using h3⟩
 rw [h2,List.take_take,hlen,Nat.min_self]
theorem x4a (l:List T6.Tok):∀i,i<l.length→(T6.z1l l)[i*3]?=some (.int .i64 (l.getD i T6.tz).n)∧(T6.z1l l)[i*3+1]?=some (.int .i64 (l.getD i T6.tz).d)∧(T6.z1l l)[i*3+2]?=some (.int .u8 ((l.getD i T6.tz).b:Int)):=by
 induction l with
 | nil=>intro i h;simp at h
 | cons t ts ih =>
  intro i h
  cases i with
  | zero=>exact ⟨rfl,rfl,rfl⟩
  | succ i =>
   have:=ih i (by simpa using h)
   rw [show (i+1)*3=i*3+3 by omega]
   exact this
theorem x1r {w:World} {base:Nat} {tv:Value} {l:List T6.Tok} (h:w.ownsRow base 76 3 tv l.length (T6.z1l l)) (hn:∀t∈l,t.n=((toT t).n:Int)∧t.d=((toT t).d:Int)) :
  ∃a cap,tv=.slice a (l.map toT).length cap∧z3e w a (l.map toT)∧∀ad,a=some ad→base≤ad.block∧ad.block<w.heap.size:=by
 obtain ⟨h1,h|⟨g,cap,cur,rfl,hg,hh,h4,h5,h6,h7⟩⟩:=h
 ·obtain ⟨rfl,h0⟩:=h
  refine ⟨none,0,by rw [List.length_map,h0],fun i hi=>?_,fun ad e=>by cases e⟩
  rw [List.length_map,h0] at hi
  omega
 ·refine ⟨some ⟨g,0,none⟩,cap,by rw [List.length_map],fun i hi=>?_,fun ad e=>by cases e;exact ⟨hg,z0b hh⟩⟩
  rw [List.length_map] at hi
  obtain ⟨c1,c2,c3⟩:=x4a l i hi
  have hm:l.getD i T6.tz∈l:=by
   rw [List.getD_eq_getElem?_getD,List.getElem?_eq_getElem hi]
   exact List.getElem_mem hi
  obtain ⟨n1,n2⟩:=hn _ hm
  have key:∀j u,(T6.z1l l)[j]?=some u→w.cell? ⟨g,j,none⟩=some u:=fun j u hj=>by
   rw [←h7,List.getElem?_take] at hj
   split at hj
   ·simp only [World.cell?,hh]
    simpa using hj
   ·cases hj
  have eg:(l.map toT).getD i ⟨0,0,0⟩=toT (l.getD i T6.tz):=by
   simp [List.getD_eq_getElem?_getD,hi]
  refine ⟨g,0,rfl,?_,?_,?_⟩
  ·rw [eg,←n1,Nat.zero_add];exact key _ _ c1
  ·rw [eg,←n2,Nat.zero_add];exact key _ _ c2
  ·rw [eg,Nat.zero_add];exact key _ _ c3
end W4
namespace W4
open Go.RowKit Mth Infl Defl
structure PutEnv (x0:World) (kind pp pb gw c1 c2 lo hi:Nat) (v0:Value) (m f:Nat) (L:List Bool):Prop where
 pack:z1w x0 pp pb kind gw c1 c2
 wok:WOk x0 pb false v0 m L f
 f7:f≤7
 spp:Safe x0 v0 pb pp
 sgw:Safe x0 v0 pb gw
 codes:TwoCodes z1b z1c x0 c1 c2 lo hi
 shi:∀k,lo≤k→k<hi→Safe x0 v0 pb k
 len:L.length≤700000000000000
section
variable {x0:World} {kind pp pb gw c1 c2 lo hi:Nat} {v0:Value} {m f:Nat} {L:List Bool}
theorem PutEnv.hi_le (h:PutEnv x0 kind pp pb gw c1 c2 lo hi v0 m f L):hi≤x0.heap.size:=by
 obtain ⟨x,y,⟨wg,g,cap,N,base,A,B,S,H,ix,ky,hc⟩,h1,h2⟩:=h.codes.a
 have:=hc.b1
 have:=(h.shi (hi-1) (by omega) (by omega)).1
 omega
theorem y6f {x z:World} {v0:Value} {pb k:Nat} (h:Safe x v0 pb k) (hb:x.heap.size≤z.heap.size):Safe z v0 pb k:=⟨Nat.lt_of_lt_of_le h.1 hb,h.2.1,h.2.2⟩
theorem PutEnv.new_safe (h:PutEnv x0 kind pp pb gw c1 c2 lo hi v0 m f L) {z:World} {k:Nat} (h1:x0.heap.size≤k) (h2:k<z.heap.size):Safe z v0 pb k :=
 ⟨h2,by have:=h.wok.lt;omega,fun e=>by have:=(h.wok.row.lt k e).2;omega⟩
theorem PutEnv.fin (h:PutEnv x0 kind pp pb gw c1 c2 lo hi v0 m f L) {z w':World} (hb:Below x0.heap.size x0 z) {L':List Bool} (hw:WrAt z v0 pb L' w'):WrAt x0 v0 pb L' w'∧z1w w' pp pb kind gw c1 c2:=by
 have q1:=hw.block (y6f h.spp hb.size)
 have q2:=hw.block (y6f h.sgw hb.size)
 obtain ⟨v',m',f',k1,k2,k3⟩:=hw
 refine ⟨⟨v',m',f',k1,k2,(Chg.of_below hb).trans k3⟩,?_,?_⟩
 ·rw [q1,hb.block _ h.spp.1];exact h.pack.1
 ·rw [q2,hb.block _ h.sgw.1];exact h.pack.2
theorem PutEnv.pack_on (h:PutEnv x0 kind pp pb gw c1 c2 lo hi v0 m f L) {z:World} (hb:Below x0.heap.size x0 z):z1w z pp pb kind gw c1 c2:=⟨by rw [hb.block _ h.spp.1];exact h.pack.1,by rw [hb.block _ h.sgw.1];exact h.pack.2⟩
theorem PutEnv.codes_on (h:PutEnv x0 kind pp pb gw c1 c2 lo hi v0 m f L) {z:World} (hb:Below x0.heap.size x0 z):TwoCodes z1b z1c z c1 c2 lo hi:=h.codes.keep fun k h1 h2=>hb.block k (h.shi k h1 h2).1
end
structure ZB (x0:World) (ts:List T) (last:Bool) (pv:Value) (c1 c2 xb:Nat) (ta:Option Addr) (tc:Nat) (own:Value) (z:World):Prop where
 bel:Below x0.heap.size x0 z
 ge:x0.heap.size≤xb
 blk:z3j z xb last pv (.slice ta ts.length tc) (.pointer (some ⟨c1,0,none⟩)) (.pointer (some ⟨c2,0,none⟩)) own
 tok:z3e z ta ts
 far:∀ad,ta=some ad→x0.heap.size≤ad.block∧ad.block<z.heap.size∧ad.block≠xb
theorem ZB.on {x0:World} {ts:List T} {last:Bool} {pv:Value} {c1 c2 xb:Nat} {ta:Option Addr} {tc:Nat} {own:Value} {z z':World} (h:ZB x0 ts last pv c1 c2 xb ta tc own z) (hb:Below z.heap.size z z'):ZB x0 ts last pv c1 c2 xb ta tc own z' where
 bel:=h.bel.trans (hb.mono h.bel.size)
 ge:=h.ge
 blk:=by have:=h.blk;unfold z3j at this ⊢;rw [hb.block _ (z0b this)];exact this
 tok:=h.tok.keep fun ad ha _=>hb.block _ (h.far ad ha).2.1
 far:=fun ad ha=>⟨(h.far ad ha).1,Nat.lt_of_lt_of_le (h.far ad ha).2.1 hb.size,(h.far ad ha).2.2⟩
def TTp (ts:List T) (ta:Option Addr) (tl tc:Nat) (y y':World):Prop:=tl=ts.length∧z3e y' ta ts∧∀ad,ta=some ad→y.heap.size≤ad.block∧ad.block<y'.heap.size
theorem y0g {x0 x x':World} {ts:List T} {last:Bool} {pv:Value} {c1 c2 xb:Nat} {ta:Option Addr} {tl tc:Nat} (h1:Below x0.heap.size x0 x) (h2:z3j x xb last pv (.slice none 0 0) (.pointer (some ⟨c1,0,none⟩)) (.pointer (some ⟨c2,0,none⟩)) (.pointer none)) (h3:x0.heap.size≤xb) (h4:Below x.heap.size x x') (h5:TTp ts ta tl tc x x') :
  ZB x0 ts last pv c1 c2 xb ta tc (.pointer none) (x'.setCell ⟨xb,2,none⟩ (.slice ta tl tc)):=by
 obtain ⟨rfl,h6,h7⟩:=h5
 have hx:=z0b h2
 have hx':x'.heap[xb]?=_:=(h4.block xb hx).trans h2
 have hne:∀ad,ta=some ad→ad.block≠xb:=fun ad ha=>by have:=(h7 ad ha).1;omega
 refine ⟨(h1.trans (h4.mono h1.size)).setCell h3 _,h3,?_,h6.keep fun ad ha _=>heap_setCell_other _ _ _ _ (hne ad ha),fun ad ha=>⟨Nat.le_trans h1.size (h7 ad ha).1,by rw [World.size_setCell];exact (h7 ad ha).2,hne ad ha⟩⟩
 unfold z3j
 rw [heap_setCell_same _ xb 2 _ _ _ hx']
 rfl
theorem y5t {zs:List Nat} {w x:World} {a:Option Addr} {c fr e:Nat} (ht:z2a w a c zs) (hz:∀z∈zs,z<256) (hc:zs.length≤c) (hn:zs.length≤10000000) (hml:T6.ML w) (hb:Below w.heap.size w x) (hfe:fr≤e) (he:e≤zs.length) :
  Calls Tryz.prog 29 #[.slice a e c,.int .i64 (fr:Int),.int .i64 32768,.int .i64 3,.int .i64 258] x fun en x'=>∃ta tl tc,en=.returned (.tuple #[.slice ta tl tc,.int .i64 0])∧Below x.heap.size x x'∧TTp (tkOf zs fr e) ta tl tc x x':=by
 have hlen:(zs.take e).length=e:=by simp;omega
 have hr:T6.z0m x.heap.size x (.slice a (zs.take e).length c) (zs.take e):=by
  refine ⟨a,c,rfl,by omega,fun h0=>?_⟩
  obtain ⟨b,off,h1,h2,h3⟩:=ht.spot (by omega)
  refine ⟨b,off,h1,Nat.lt_of_lt_of_le h2 hb.size,fun j hj=>?_⟩
  rw [y9s _ _ _ (by omega)]
  exact z0a hb (h3 j (by omega))
 have hp:=T6.x3k (zs.take e) a c fr 32768 3 258 x hr (by omega) (fun z h=>hz z (List.mem_of_mem_take h)) (by omega) (by omega) (by omega) (by omega) (by omega) (by omega) (by omega) (T6.ML.stays hb hml)
 rw [hlen] at hp
 refine hp.mono ?_
 rintro en x' ⟨tv,l,rfl,h1,h2,h3⟩
 have h4:=(y2j (fun z h=>hz z (List.mem_of_mem_take h)) h1).2.2
 obtain ⟨ta,tc,rfl,h5,h6⟩:=x1r h2 h4
 rw [x0h h1]
 exact ⟨ta,_,tc,rfl,h3,rfl,h5,h6⟩
section
variable {x0:World} {kind pp pb gw c1 c2 lo hi:Nat} {v0:Value} {m f:Nat} {L:List Bool} {ts:List T} {last:Bool} {pv:Value} {xb:Nat} {ta:Option Addr} {tc:Nat} {own:Value} {z:World}
theorem ZB.wr (hE:PutEnv x0 kind pp pb gw c1 c2 lo hi v0 m f L) (h:ZB x0 ts last pv c1 c2 xb ta tc own z):WrAt z v0 pb L z:=⟨v0,m,f,hE.wok.below h.bel,hE.f7,Chg.refl _ _ _⟩
theorem x9w (hE:PutEnv x0 kind pp pb gw c1 c2 lo hi v0 m f L) {zs:List Nat} {pa:Option Addr} {pc:Nat} (h:ZB x0 ts last (.slice pa zs.length pc) c1 c2 xb ta tc own z)
  (hr:(pa=none∧pc=0∧zs=[])∨∃ad,pa=some ad∧(zs=[]∨Safe x0 v0 pb ad.block)∧∀ (j:Nat) u,(zs.map bv)[j]?=some u→x0.cell? (ad.add j)=some u) (hz:∀z∈zs,z<256) (hn:zs.length≤65535) :
  Calls Tryz.prog 21 #[.pointer (some ⟨xb,0,none⟩),.pointer (some ⟨pb,0,none⟩)] z fun e w'=>e=.returned (.tuple #[])∧WrAt x0 v0 pb (L++z1j zs last.toNat L.length) w'∧z1w w' pp pb kind gw c1 c2:=by
 refine (y0s xb pb zs pa pc last _ _ _ _ z z v0 L (h.wr hE) (hE.new_safe h.ge (z0b h.blk)) h.blk ?_ hz hn (by have:=hE.len;omega)).mono ?_
 ·rcases hr with h1|⟨ad,h1,h2,h3⟩
  ·exact .inl h1
  ·exact .inr ⟨ad,h1,h2.imp id (fun s=>y6f s h.bel.size),fun j u hj=>z0a h.bel (h3 j u hj)⟩
 ·rintro e w' ⟨rfl,k⟩
  exact ⟨rfl,hE.fin h.bel k⟩
theorem x2f (hE:PutEnv x0 kind pp pb gw c1 c2 lo hi v0 m f L) (h:ZB x0 ts last pv c1 c2 xb ta tc own z) (hto:TokBy z1b z1c ts) :
  Calls Tryz.prog 23 #[.pointer (some ⟨xb,0,none⟩),.pointer (some ⟨pb,0,none⟩)] z fun e w'=>e=.returned (.tuple #[])∧WrAt x0 v0 pb (L++z1g ts last.toNat) w'∧z1w w' pp pb kind gw c1 c2:=by
 refine (y9p z1b z1c ts ta tc c1 c2 lo hi xb pb last pv own z z v0 L (h.wr hE) (hE.new_safe h.ge (z0b h.blk)) h.blk (hE.codes_on h.bel) (Nat.le_trans hE.hi_le h.bel.size) (fun k h1 h2=>y6f (hE.shi k h1 h2) h.bel.size) h.tok (fun ad ha _=>hE.new_safe (h.far ad ha).1 (h.far ad ha).2.1) hto (by have:=hE.len;omega)).mono ?_
 rintro e w' ⟨rfl,k⟩
 exact ⟨rfl,hE.fin h.bel k⟩
theorem x4l {n pc:Nat} {pa:Option Addr} (h:ZB x0 ts last (.slice pa n pc) c1 c2 xb ta tc own z) (hn:n≤65535) (at_:Nat) (ha:at_≤1000000000000000) :
  Calls Tryz.prog 20 #[.pointer (some ⟨xb,0,none⟩),.int .i64 (at_:Int)] z fun e w'=>e=.returned (.int .i64 (z0o n at_:Int))∧w'=z :=
 z8a xb at_ n pa pc last _ _ _ _ z h.blk hn ha
theorem y8p (hE:PutEnv x0 kind pp pb gw c1 c2 lo hi v0 m f L) (h:ZB x0 ts last pv c1 c2 xb ta tc own z) (hto:TokBy z1b z1c ts) (at_:Int) (last':Nat) :
  Calls Tryz.prog 22 #[.pointer (some ⟨xb,0,none⟩),.int .i64 at_] z fun e w'=>e=.returned (.int .i64 ((z1g ts last').length:Int))∧Below z.heap.size z w':=by
 have e:(z1g ts last').length=3+(z2h z1b z1c ts++wb z1b 256).length:=by unfold z1g;rw [List.length_append];simp [head,z0g]
 rw [e]
 exact y6j z1b z1c ts ta tc c1 c2 lo hi xb at_ last pv own z h.blk (hE.codes_on h.bel) (Nat.le_trans hE.hi_le h.bel.size) h.tok hto
structure QB (x0:World) (ts:List T) (last:Bool) (pv:Value) (c1 c2 xb:Nat) (z:World):Prop where
 is_:∃ta tc ob o1 o2 wB,ZB x0 ts last pv c1 c2 xb ta tc (.pointer (some ⟨ob,0,none⟩)) z∧OwnAt wB z ob ts o1 o2∧x0.heap.size≤wB.heap.size
theorem x0o (hE:PutEnv x0 kind pp pb gw c1 c2 lo hi v0 m f L) (h:QB x0 ts last pv c1 c2 xb z) {out:List Nat} (hok:Oks out ts) (hlen:ts.length≤1000000000) :
  Calls Tryz.prog 25 #[.pointer (some ⟨xb,0,none⟩),.pointer (some ⟨pb,0,none⟩)] z fun e w'=>e=.returned (.tuple #[])∧WrAt x0 v0 pb (L++z3a (plOf ts) ts last.toNat) w'∧z1w w' pp pb kind gw c1 c2:=by
 obtain ⟨ta,tc,ob,o1,o2,wB,h,ho,hB⟩:=h.is_
 refine (x3o ts ta tc xb pb ob o1 o2 last pv _ _ wB z z v0 L (h.wr hE) (hE.new_safe h.ge (z0b h.blk)) h.blk ho (fun k h1 h2=>hE.new_safe (Nat.le_trans hB h1) h2) h.tok (fun ad ha _=>hE.new_safe (h.far ad ha).1 (h.far ad ha).2.1) (z5j hok hlen) hE.len).mono ?_
 rw [z9g hok hlen]
 rintro e w' ⟨rfl,k⟩
 exact ⟨rfl,hE.fin h.bel k⟩
structure S1B (y:World) (ts:List T) (last:Bool) (pv:Value) (c1 c2 xb:Nat) (ta:Option Addr) (tc p q:Nat) (z:World):Prop where
 ge:y.heap.size≤p
 le:q≤z.heap.size
 chb:Chb xb y z
 own:∃ob o1 o2 wB wT,wB.heap.size=p∧wT.heap.size=q∧OwnAt wB wT ob ts o1 o2∧(∀k,p≤k→k<q→z.heap[k]?=wT.heap[k]?)∧z3j z xb last pv (.slice ta ts.length tc) (.pointer (some ⟨c1,0,none⟩)) (.pointer (some ⟨c2,0,none⟩)) (.pointer (some ⟨ob,0,none⟩))
theorem S1B.alloc {y z:World} {p q:Nat} (h:S1B y ts last pv c1 c2 xb ta tc p q z) (o:Obj):S1B y ts last pv c1 c2 xb ta tc p q (z.alloc o):=by
 obtain ⟨ob,o1,o2,wB,wT,e1,e2,e3,e4,e5⟩:=h.own
 have hz:∀k,k<z.heap.size→(z.alloc o).heap[k]?=z.heap[k]?:=fun k hk=>Below.heap_alloc _ _ _ hk
 refine ⟨h.ge,by have:=h.le;simp;omega,⟨h.chb.os,h.chb.tape,h.chb.output,by have:=h.chb.size;simp;omega,fun k hk hn=>(hz k (Nat.lt_of_lt_of_le hk h.chb.size)).trans (h.chb.keep k hk hn)⟩,ob,o1,o2,wB,wT,e1,e2,e3,fun k h1 h2=>(hz k (Nat.lt_of_lt_of_le h2 h.le)).trans (e4 k h1 h2),?_⟩
 unfold z3j at e5 ⊢
 rw [hz xb (z0b e5)]
 exact e5
theorem S1B.set {y z:World} {p q:Nat} (h:S1B y ts last pv c1 c2 xb ta tc p q z) (hxb:xb<y.heap.size) (k o:Nat) (v:Value) (hk:y.heap.size≤k) (hpq:k<p∨q≤k):S1B y ts last pv c1 c2 xb ta tc p q (z.setCell ⟨k,o,none⟩ v):=by
 obtain ⟨ob,o1,o2,wB,wT,e1,e2,e3,e4,e5⟩:=h.own
 have hz:∀j,j≠k→(z.setCell ⟨k,o,none⟩ v).heap[j]?=z.heap[j]?:=fun j hj=>heap_setCell_other _ _ _ _ hj
 refine ⟨h.ge,by rw [World.size_setCell];exact h.le,⟨h.chb.os,h.chb.tape,h.chb.output,by rw [World.size_setCell];exact h.chb.size,fun j hj hn=>(hz j (by omega)).trans (h.chb.keep j hj hn)⟩,ob,o1,o2,wB,wT,e1,e2,e3,fun j h1 h2=>(hz j (by omega)).trans (e4 j h1 h2),?_⟩
 unfold z3j at e5 ⊢
 rw [hz xb (by omega)]
 exact e5
theorem S1B.drewN {y z:World} {p q:Nat} (h:S1B y ts last pv c1 c2 xb ta tc p q z) (m:Nat):S1B y ts last pv c1 c2 xb ta tc p q (z.drewN m):=⟨h.ge,h.le,⟨h.chb.os,h.chb.tape,h.chb.output,h.chb.size,h.chb.keep⟩,h.own⟩
theorem S1B.qb {y z:World} {p q:Nat} (hy:ZB x0 ts last pv c1 c2 xb ta tc own y) (h:S1B y ts last pv c1 c2 xb ta tc p q z):QB x0 ts last pv c1 c2 xb z:=by
 obtain ⟨ob,o1,o2,wB,wT,rfl,rfl,e3,e4,e5⟩:=h.own
 have hle:=hy.bel.size
 refine ⟨ta,tc,ob,o1,o2,wB,⟨?_,hy.ge,e5,hy.tok.keep fun ad ha _=>h.chb.keep _ (hy.far ad ha).2.1 (hy.far ad ha).2.2,fun ad ha=>⟨(hy.far ad ha).1,Nat.lt_of_lt_of_le (hy.far ad ha).2.1 h.chb.size,(hy.far ad ha).2.2⟩⟩,e3.keep e4 h.le,Nat.le_trans hle h.ge⟩
 exact hy.bel.trans ⟨h.chb.os,h.chb.tape,h.chb.output,h.chb.size,fun k hk=>h.chb.keep k (by omega) (by have:=hy.ge;omega)⟩
theorem x2g {y z:World} (hy:ZB x0 ts last pv c1 c2 xb ta tc (.pointer none) y) (hb:Below y.heap.size y z) {out:List Nat} (hok:Oks out ts) (hlen:ts.length≤1000000000) (at_:Int) (last':Nat) :
  Calls Tryz.prog 24 #[.pointer (some ⟨xb,0,none⟩),.int .i64 at_] z fun e w'=>e=.returned (.int .i64 ((z3a (plOf ts) ts last').length:Int))∧S1B y ts last pv c1 c2 xb ta tc z.heap.size w'.heap.size w'∧Keep xb z w':=by
 have hz:=hy.on hb
 have e:(z3a (plOf ts) ts last').length=3+(z1z (oF ts)++z2o (oZ ts) (oR ts)).length+(z2h (oX ts) (oY ts) ts++wb (oX ts) 256).length:=by
  rw [←z9g hok hlen last',List.length_append,List.length_append]
  simp [head,z0g]
  omega
 rw [e]
 refine (y8k ts ta tc xb at_ last pv _ _ z hz.blk hz.tok (fun ad ha _=>(hz.far ad ha).2.2) (z5j hok hlen)).mono ?_
 rintro en w' ⟨ob,o1,o2,rfl,k1,k2,k3⟩
 refine ⟨rfl,⟨hb.size,Nat.le_refl _,(Chb.of_below hb).trans k3,ob,o1,o2,z,w',rfl,rfl,k2,fun _ _ _=>rfl,k1⟩,k3.size,fun k h1 h2=>k3.keep k h1 h2⟩
end
end W4
namespace W4
open Go.RowKit Mth Infl Defl
theorem y0b (K OFF LEN CAP I F:Nat) (hK:((K:Int) != 1)=true) (hway:∀g,wayV g K=.slice (some ⟨g,OFF,none⟩) LEN CAP) (hI:(I:Int)<(LEN:Int)) (hcall:∀ (args:Array Value) (x:World),Sem.run Tryz.prog (callFunc F args) x=.ok (.enter F args) x) (hwc:z9j[OFF+I*2+1]?=some (.func (.func F) #[] #[])) (pp pb gw c1 c2 from_ n:Nat) (a:Option Addr) (c:Nat) (pa:Option Addr) (N pc:Nat) (last:Bool) (w:World) (TT:Option Addr→Nat→Nat→World→World→Prop) (R Q:Nat→World→Prop) (Fin:World→Prop) (m:Int)
  (hp:z1w w pp pb K gw c1 c2)
  (hsl:∀x,(Instr.slice 22 (.slice a n c) (some (.int .i64 (from_:Int))) none none).run Tryz.prog x=.ok (.slice pa N pc) x)
  (hparse:Hid (∀x,Below w.heap.size w x→Calls Tryz.prog 29 #[.slice a n c,.int .i64 (from_:Int),.int .i64 32768,.int .i64 3,.int .i64 258] x fun e x'=>∃ta tl tc,e=.returned (.tuple #[.slice ta tl tc,.int .i64 0])∧Below x.heap.size x x'∧TT ta tl tc x x'))
  (hR:Hid (∀x x' xb ta tl tc,Below w.heap.size w x→z3j x xb last (.slice pa N pc) (.slice none 0 0) (.pointer (some ⟨c1,0,none⟩)) (.pointer (some ⟨c2,0,none⟩)) (.pointer none)→w.heap.size≤xb→Below x.heap.size x x'→TT ta tl tc x x'→R xb (x'.setCell ⟨xb,2,none⟩ (.slice ta tl tc))))
  (hRp:Hid (∀xb x,R xb x→z1w x pp pb K gw c1 c2)) (hRd:Hid (∀xb x,R xb x→R xb x.drew))
  (hch:Hid (∀xb x,R xb x→Calls Tryz.prog 30 #[.pointer (some ⟨pp,0,none⟩),.pointer (some ⟨xb,0,none⟩)] x fun e x'=>e=.returned (.agg #[.int .i64 (I:Int),.int .i64 m])∧Q xb x'))
  (hQp:Hid (∀xb x,Q xb x→z1w x pp pb K gw c1 c2))
  (hpw:Hid (∀xb x,Q xb x→Calls Tryz.prog F #[.pointer (some ⟨xb,0,none⟩),.pointer (some ⟨pb,0,none⟩)] x fun e x'=>e=.returned (.tuple #[])∧Fin x'∧z1w x' pp pb K gw c1 c2)) :
  Calls Tryz.prog 12 #[.pointer (some ⟨pp,0,none⟩),.slice a n c,.int .i64 (from_:Int),.bool last] w fun e w'=>e=.returned (.tuple #[])∧Fin w':=by
 obtain ⟨hp1,hp2⟩:=hp
 have p1:w.cell? ⟨pp,1,none⟩=some (.int .i64 (K:Int)):=by simp [World.cell?,hp1]
 go_enter Tryz.func12,Tryz.ntmps12
 go_wp2_with fail
 refine wp_region_noPanic ?_
 refine wp_region_held_drew (S:=fun x=>z1w x pp pb K gw c1 c2) (by kernel_rfl) ⟨hp1,hp2⟩ (fun hHeld=>?_)
 refine hT 0 9 rfl rfl hHeld nPp (v:=?_) (fun x hSx=>?_) ?_
 rotate_left 1
 ·go_simp<;>with_reducible rfl
 simp only [sA,sB]
 refine hT 1 10 rfl rfl hHeld nPp (v:=?_) (fun x hSx=>?_) ?_
 rotate_left 1
 ·go_simp<;>with_reducible rfl
 simp only [sA,sB]
 refine hT 2 11 rfl rfl hHeld nPp (v:=?_) (fun x hSx=>?_) ?_
 rotate_left 1
 ·go_simp<;>with_reducible rfl
 simp only [sA,sB]
 refine hT 3 12 rfl rfl hHeld nPp (v:=?_) (fun x hSx=>?_) ?_
 rotate_left 1
 ·go_simp<;>with_reducible rfl
 simp only [sA,sB]
 refine hT 4 13 rfl rfl hHeld nPp (v:=?_) (fun x hSx=>?_) ?_
 rotate_left 1
 ·go_simp<;>with_reducible rfl
 simp only [sA,sB]
 refine hT 5 14 rfl rfl hHeld nPp (v:=?_) (fun x hSx=>?_) ?_
 rotate_left 1
 ·go_simp<;>with_reducible rfl
 simp only [sA,sB]
 refine hT 6 15 rfl rfl hHeld nPp (v:=?_) (fun x hSx=>?_) ?_
 rotate_left 1
 ·go_simp<;>with_reducible rfl
 simp only [sA,sB]
 refine hT 7 16 rfl rfl hHeld nPp (v:=?_) (fun x hSx=>?_) ?_
 rotate_left 1
 ·have q3:x.cell? ⟨pp,3,none⟩=some (.pointer (some ⟨c1,0,none⟩)):=(by simp [World.cell?,hSx.1]);have q4:x.cell? ⟨pp,4,none⟩=some (.pointer (some ⟨c2,0,none⟩)):=(by simp [World.cell?,hSx.1]);clear hSx;go_simp<;>with_reducible rfl
 simp only [sA,sB]
 refine hT 8 17 rfl rfl hHeld nPp (v:=?_) (fun x hSx=>?_) ?_
 rotate_left 1
 ·go_simp<;>with_reducible rfl
 simp only [sA,sB]
 refine hO 9 18 rfl rfl (v:=.pointer (some ⟨w.heap.size,0,none⟩)) (w':=(w.alloc (.cells #[.bool last,.slice pa N pc,.slice none 0 0,.pointer (some ⟨c1,0,none⟩),.pointer (some ⟨c2,0,none⟩),.pointer none] 65)).drew) ?_ ?_ ?_
 ·first|(go_simp;done)|(go_simp<;>first|exact ⟨rfl,rfl⟩|rfl)
 ·exact ⟨by show (w.alloc _).heap[pp]?=_;rw [Below.heap_alloc _ _ _ (z0b hp1)];exact hp1,by show (w.alloc _).heap[gw]?=_;rw [Below.heap_alloc _ _ _ (z0b hp2)];exact hp2⟩
 simp only [sA,sB]
 obtain ⟨xb,hxb⟩:∃xb,xb=w.heap.size:=⟨_,rfl⟩
 obtain ⟨W1,hW1⟩:∃W1,W1=(w.alloc (.cells #[.bool last,.slice pa N pc,.slice none 0 0,.pointer (some ⟨c1,0,none⟩),.pointer (some ⟨c2,0,none⟩),.pointer none] 65)).drew:=⟨_,rfl⟩
 have HX1:Hid (z3j W1 xb last (.slice pa N pc) (.slice none 0 0) (.pointer (some ⟨c1,0,none⟩)) (.pointer (some ⟨c2,0,none⟩)) (.pointer none)):=qz (by rw [hW1,hxb];exact heap_alloc_new _ _)
 have HB1:Hid (Below w.heap.size w W1):=qz (by rw [hW1];exact below_drewN ((Below.refl _ _).alloc (Nat.le_refl _) _) 1)
 have HP1:Hid (z1w W1 pp pb K gw c1 c2):=qz ⟨by rw [(uh HB1).block pp (z0b hp1)];exact hp1,by rw [(uh HB1).block gw (z0b hp2)];exact hp2⟩
 rw [←hW1,←hxb]
 have HXB:=qz hxb
 clear hW1 hxb hHeld
 refine hO 10 8 rfl rfl (v:=.pointer (some ⟨xb,0,none⟩)) (w':=W1) ?_ (uh HP1) ?_
 ·first|(go_simp;done)|(go_simp<;>first|exact ⟨rfl,rfl⟩|rfl)
 simp only [sA,sB]
 refine dN ?_
 have p1:W1.cell? ⟨pp,1,none⟩=some (.int .i64 (K:Int)):=by simp [World.cell?,(uh HP1).1]
 have HPA:=qz (uh hparse W1 (uh HB1))
 have HRR:Hid (∀x' ta tl tc,Below W1.heap.size W1 x'→TT ta tl tc W1 x'→R xb (x'.setCell ⟨xb,2,none⟩ (.slice ta tl tc))):=qz (fun x' ta tl tc h1 h2=>uh hR W1 x' xb ta tl tc (uh HB1) (uh HX1) (by rw [uh HXB];exact Nat.le_refl _) h1 h2)
 clear hparse hR
 go_wp2_with fail
 refine (uh HPA).mono ?_
 rintro e X1 ⟨ta,tl,tc,rfl,k1,k2⟩
 obtain ⟨WR,hWR⟩:∃WR,WR=X1.setCell ⟨xb,2,none⟩ (.slice ta tl tc):=⟨_,rfl⟩
 have HR2:Hid (R xb WR):=qz (by rw [hWR];exact uh HRR X1 ta tl tc k1 k2)
 have hx2:=(k1.block xb (z0b (uh HX1))).trans (uh HX1)
 have hcx:X1.cell? ⟨xb,2,none⟩=some (.slice none 0 0):=by simp [World.cell?,hx2]
 have hfx:X1.frozen? ⟨xb,2,none⟩=false:=by simp [World.frozen?,hx2]
 clear k1 k2 hx2 HPA HRR HX1 HB1 HP1 p1
 go_wp2_with fail
 rw [←hWR]
 clear hWR hcx hfx
 go_wp2_with fail
 refine wp_region_noPanic ?_
 refine wp_region_held_drew (S:=fun x=>z1w x pp pb K gw c1 c2) (by kernel_rfl) (uh hRp xb _ (uh hRd _ _ (uh HR2))) (fun hHeld=>?_)
 obtain ⟨W2,hW2⟩:∃W2,W2=WR.drew:=⟨_,rfl⟩
 have HR3:Hid (R xb W2):=qz (by rw [hW2];exact uh hRd _ _ (uh HR2))
 show wpAnyH _ _ _ _ _ _ _ _ WR.drew
 rw [←hW2] at hHeld ⊢
 clear hW2 HR2 hRd
 refine hT 0 33 rfl rfl hHeld nPp (v:=?_) (fun x hSx=>?_) ?_
 rotate_left 1
 ·go_simp<;>with_reducible rfl
 simp only [sA,sB]
 refine hT 1 34 rfl rfl hHeld nPp (v:=?_) (fun x hSx=>?_) ?_
 rotate_left 1
 ·go_simp<;>with_reducible rfl
 simp only [sA,sB]
 refine hT 2 35 rfl rfl hHeld nPp (v:=?_) (fun x hSx=>?_) ?_
 rotate_left 1
 ·go_simp<;>with_reducible rfl
 simp only [sA,sB]
 refine hT 3 36 rfl rfl hHeld nPp (v:=?_) (fun x hSx=>?_) ?_
 rotate_left 1
 ·have q2:x.cell? ⟨pp,2,none⟩=some (.slice (some ⟨gw,OFF,none⟩) LEN CAP):=(by rw [←hway gw];simp only [World.cell?,hSx.1];rfl);clear hSx;go_simp<;>with_reducible rfl
 simp only [sA,sB]
 refine hT 4 37 rfl rfl hHeld nPp (v:=?_) (fun x hSx=>?_) ?_
 rotate_left 1
 ·go_simp<;>with_reducible rfl
 simp only [sA,sB]
 refine hT 5 38 rfl rfl hHeld nPp (v:=?_) (fun x hSx=>?_) ?_
 rotate_left 1
 ·go_simp<;>with_reducible rfl
 simp only [sA,sB]
 refine hT 11 44 rfl rfl hHeld nPp (v:=?_) (fun x hSx=>?_) ?_
 rotate_left 1
 ·go_simp<;>with_reducible rfl
 simp only [sA,sB]
 refine hT 12 45 rfl rfl hHeld nPp (v:=?_) (fun x hSx=>?_) ?_
 rotate_left 1
 ·go_simp<;>with_reducible rfl
 simp only [sA,sB]
 refine hT 13 46 rfl rfl hHeld nPp (v:=?_) (fun x hSx=>?_) ?_
 rotate_left 1
 ·go_simp<;>with_reducible rfl
 simp only [sA,sB]
 refine hT 14 47 rfl rfl hHeld nPp (v:=?_) (fun x hSx=>?_) ?_
 rotate_left 1
 ·go_simp<;>with_reducible rfl
 simp only [sA,sB]
 refine hT 15 48 rfl rfl hHeld nPp (v:=?_) (fun x hSx=>?_) ?_
 rotate_left 1
 ·have q0:x.cell? ⟨pp,0,none⟩=some (.pointer (some ⟨pb,0,none⟩)):=(by simp only [World.cell?,hSx.1];rfl);clear hSx;go_simp<;>with_reducible rfl
 simp only [sA,sB]
 refine z0u 6 39 (by kernel_rfl) rfl rfl (by rfl) (by go_simp<;>exact ⟨rfl,rfl⟩) ?_
 refine (uh hch xb W2 (uh HR3)).mono ?_
 rintro e W3 ⟨rfl,q3⟩
 have HQ3:=qz q3
 have HP3:Hid (z1w W3 pp pb K gw c1 c2):=qz (uh hQp xb W3 q3)
 clear q3 HR3
 refine ⟨_,rfl,uh HP3,?_⟩
 simp only [sA,sB]
 have fld:=fun x=>x5w x (I:Int) m
 refine hT 7 40 rfl rfl (uh HP3) nPp (v:=?_) (fun x hSx=>?_) ?_
 rotate_left 1
 ·go_simp<;>with_reducible rfl
 simp only [sA,sB]
 refine hT 8 41 rfl rfl (uh HP3) nPp (v:=?_) (fun x hSx=>?_) ?_
 rotate_left 1
 ·go_simp<;>with_reducible rfl
 simp only [sA,sB]
 refine hT 9 42 rfl rfl (uh HP3) nPp (v:=?_) (fun x hSx=>?_) ?_
 rotate_left 1
 ·go_simp<;>with_reducible rfl
 simp only [sA,sB]
 refine hT 10 43 rfl rfl (uh HP3) nPp (v:=?_) (fun x hSx=>?_) ?_
 rotate_left 1
 ·have q1:x.cell? ⟨gw,OFF+I*2+1,none⟩=some (.func (.func F) #[] #[]):=(by simp only [World.cell?,hSx.2];exact hwc);clear hSx;go_simp<;>with_reducible rfl
 simp only [sA,sB]
 refine z0u 16 49 (by kernel_rfl) rfl rfl (by rfl) (by go_simp<;>exact ⟨rfl,rfl⟩) ?_
 refine (uh hpw xb W3 (uh HQ3)).mono ?_
 rintro e W4 ⟨rfl,k1,k2⟩
 have HK1:=qz k1
 refine ⟨_,rfl,k2,?_⟩
 simp only [sA,sB]
 clear k1 k2
 refine dN ?_
 go_wp2_with fail
 go_end0
 exact ⟨rfl,uh HK1⟩
end W4
end Go.Proofs.YtabeanealkopbaaGreat
