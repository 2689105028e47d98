/- A part of the proof. -/
import Derived.KernelRfl
import Derived.Deep.RegionHeld3
import Derived.StillTailTactics
import Derived.WalkKit
import Derived.Test.YtabeanealkopbaaGreatRows
import Derived.WalkSpells
import Derived.Handy
import Derived.Laws.Rows
import Derived.Laws.BitsAllLaws
import Derived.Laws.BytesString
import Derived.Laws.CopyOwn
import Derived.Laws.BytesArg
import Derived.Laws.AppendOwnNone
import Derived.Deep.LoopGhost
import Derived.Deep.QuietTactic
import Derived.Deep.DeepMust
import Derived.Deep.DrawnRows
import Derived.Deep.AppendLies
import Derived.Deep.DeepCutAuto
import Derived.Maps.AppendAt
import Derived.BigQuiet
import Derived.Lib.SmallJoins
import Derived.Laws.IdiomStrings
import Derived.OwnWalk
import Derived.Deep.WholeRow

set_option linter.unusedVariables false
set_option maxRecDepth 100000
set_option maxHeartbeats 24000000
namespace Go.Proofs.YtabeanealkopbaaGreat
theorem dN {P : Program} {md : Region.Mode} {ops : Array Oper} {Q : Exit → Act → World → Prop} {S : World → Prop} {listed : Array Bool} {a : Act} {w : World} {fuel : Nat} (h : Q .normal a w) (hr : Region.ready md ops listed = [] := by kernel_rfl) : wpAnyH P md ops (NoPanic Q) S fuel listed a w := wpAnyH_done hr (NoPanic.normal h) fuel
theorem sA {α : Type _} (a b : α) (l : List α) : (a :: l).set 0 b = b :: l := rfl
theorem sB {α : Type _} (a b : α) (l : List α) (n : Nat) : (a :: l).set (n + 1) b = a :: l.set n b := rfl
end Go.Proofs.YtabeanealkopbaaGreat
namespace Go.Proofs.YtabeanealkopbaaGreat
namespace Infl
def cp (d:Nat):Nat→List Nat→List Nat
 | 0,P=>P
 | k+1,P=>cp d k P++[(cp d k P).getD ((cp d k P).length-d) 0]
structure In where
 f:Nat→Bool
 k:Nat
def In.m (I:In):Nat:=8*I.k
def Agree (I J:In) (n:Nat):Prop:=∀i,i<n→J.f i=I.f i
theorem Agree.mono {I J:In} {n k:Nat} (h:Agree I J n) (hk:k≤n):Agree I J k:=fun i hi=>h i (by omega)
inductive Res (α:Type) where
 | ok (x:α) (at':Nat)
 | bad (e:Nat)
 | more
abbrev Rd (α:Type):=In→Nat→Res α
def Rd.pure {α:Type} (x:α):Rd α:=fun _ p=>.ok x p
def Rd.fail {α:Type} (e:Nat):Rd α:=fun _ _=>.bad e
def Rd.bind {α β:Type} (r:Rd α) (k:α→Rd β):Rd β:=fun I p=>match r I p with
 | .ok x q=>k x I q
 | .bad e=>.bad e
 | .more=>.more
def Rd.stuck {α:Type}:Rd α:=fun _ _=>.more
structure Loc {α:Type} (r:Rd α):Prop where
 le:∀I p x q,p≤I.m→r I p=.ok x q→p≤q∧q≤I.m
 ext:∀I J p x q,p≤I.m→r I p=.ok x q→Agree I J q→q≤J.m→r J p=.ok x q
 cut:∀I J p x q,p≤I.m→r I p=.ok x q→Agree I J J.m→p≤J.m→J.m<q→r J p=.bad 10
 err:∀I J p e,p≤I.m→r I p=.bad e→e≠10→Agree I J I.m→I.m≤J.m→r J p=.bad e
theorem Loc.pure {α:Type} (x:α):Loc (Rd.pure x) :=
 ⟨fun I p y q hp h=>by simp only [Rd.pure,Res.ok.injEq] at h;omega,fun I J p y q hp h _ _=>h,fun I J p y q hp h _ h1 h2=>by simp only [Rd.pure,Res.ok.injEq] at h;omega,fun I J p e hp h _ _ _=>by cases h⟩
theorem Loc.fail {α:Type} (e:Nat):Loc (Rd.fail (α:=α) e) :=
 ⟨fun I p y q hp h=>by simp [Rd.fail] at h,fun I J p y q hp h _ _=>by simp [Rd.fail] at h,fun I J p y q hp h _ _ _=>by simp [Rd.fail] at h,fun I J p e hp h _ _ _=>h⟩
theorem Loc.stuck {α:Type}:Loc (Rd.stuck (α:=α)) :=
 ⟨fun I p y q hp h=>by simp [Rd.stuck] at h,fun I J p y q hp h _ _=>by simp [Rd.stuck] at h,fun I J p y q hp h _ _ _=>by simp [Rd.stuck] at h,fun I J p e hp h _ _ _=>by cases h⟩
theorem bind_ok {α β:Type} {r:Rd α} {k:α→Rd β} {I:In} {p:Nat} {y:β} {q:Nat} (h:r.bind k I p=.ok y q):∃x o,r I p=.ok x o∧k x I o=.ok y q:=by
 unfold Rd.bind at h
 cases hr:r I p with
 | ok x o=>rw [hr] at h;exact ⟨x,o,rfl,h⟩
 | bad e=>rw [hr] at h;cases h
 | more=>rw [hr] at h;cases h
theorem y4s {α β:Type} {r:Rd α} {k:α→Rd β} {I:In} {p o:Nat} {x:α} (h:r I p=.ok x o):r.bind k I p=k x I o:=by unfold Rd.bind;rw [h]
theorem y4r {α β:Type} {r:Rd α} {k:α→Rd β} {I:In} {p e:Nat} (h:r I p=.bad e):r.bind k I p=.bad e:=by unfold Rd.bind;rw [h]
theorem Loc.bind {α β:Type} {r:Rd α} {k:α→Rd β} (h:Loc r) (hk:∀x,Loc (k x)):Loc (r.bind k):=by
 refine ⟨fun I p y q hp e=>?_,fun I J p y q hp e ha hq=>?_,fun I J p y q hp e ha hpj hq=>?_,fun I J p e hp h0 h10 ha hm=>?_⟩
 ·obtain ⟨x,o,h1,h2⟩:=bind_ok e
  obtain ⟨l1,l2⟩:=h.le I p x o hp h1
  obtain ⟨l3,l4⟩:=(hk x).le I o y q l2 h2
  omega
 ·obtain ⟨x,o,h1,h2⟩:=bind_ok e
  obtain ⟨l1,l2⟩:=h.le I p x o hp h1
  obtain ⟨l3,l4⟩:=(hk x).le I o y q l2 h2
  rw [y4s (h.ext I J p x o hp h1 (ha.mono l3) (by omega))]
  exact (hk x).ext I J o y q l2 h2 ha hq
 ·obtain ⟨x,o,h1,h2⟩:=bind_ok e
  obtain ⟨l1,l2⟩:=h.le I p x o hp h1
  by_cases ho:J.m<o
  ·exact y4r (h.cut I J p x o hp h1 ha hpj ho)
  ·rw [y4s (h.ext I J p x o hp h1 (ha.mono (by omega)) (by omega))]
   exact (hk x).cut I J o y q l2 h2 ha (by omega) hq
 ·cases hr:r I p with
  | ok x o =>
   rw [y4s hr] at h0
   obtain ⟨l1,l2⟩:=h.le I p x o hp hr
   rw [y4s (h.ext I J p x o hp hr (ha.mono l2) (by omega))]
   exact (hk x).err I J o e l2 h0 h10 ha hm
  | bad e' =>
   rw [y4r hr] at h0
   injection h0 with h0
   subst h0
   exact y4r (h.err I J p e' hp hr h10 ha hm)
  | more=>simp [Rd.bind,hr] at h0
def num (f:Nat→Bool) (p:Nat):Nat→Nat
 | 0=>0
 | n+1=>num f p n+(f (p+n)).toNat*2^n
theorem x1h {f g:Nat→Bool} {p:Nat}:∀n,(∀i,i<p+n→g i=f i)→num g p n=num f p n
 | 0,_=>rfl
 | n+1,h=>by rw [num,num,x1h n (fun i hi=>h i (by omega)),h (p+n) (by omega)]
def get (n:Nat):Rd Nat:=fun I p=>if p+n≤I.m then .ok (num I.f p n) (p+n) else .bad 10
theorem Loc.get (n:Nat):Loc (get n):=by
 refine ⟨fun I p x q hp h=>?_,fun I J p x q hp h ha hq=>?_,fun I J p x q hp h ha hpj hq=>?_,fun I J p e hp h h10 ha hm=>?_⟩
 ·unfold Infl.get at h
  split at h
  ·simp only [Res.ok.injEq] at h;omega
  ·cases h
 ·unfold Infl.get at h ⊢
  split at h
  ·simp only [Res.ok.injEq] at h
   obtain ⟨rfl,rfl⟩:=h
   rw [if_pos hq,x1h n (fun i hi=>ha i hi)]
  ·cases h
 ·unfold Infl.get at h ⊢
  split at h
  ·simp only [Res.ok.injEq] at h
   rw [if_neg (by omega)]
  ·cases h
 ·unfold Infl.get at h
  split at h
  ·cases h
  ·injection h with h;omega
def align:Rd Unit:=fun _ p=>.ok () ((p+7)/8*8)
theorem Loc.align:Loc align:=by
 refine ⟨fun I p x q hp h=>?_,fun I J p x q hp h ha hq=>?_,fun I J p x q hp h ha hpj hq=>?_,fun I J p e hp h h10 ha hm=>?_⟩
 ·simp only [Infl.align,Res.ok.injEq] at h
  unfold In.m at *
  omega
 ·simp only [Infl.align,Res.ok.injEq] at h ⊢
  exact h
 ·simp only [Infl.align,Res.ok.injEq] at h
  unfold In.m at *
  omega
 ·cases h
structure GL (g:List Nat→(Nat→Bool)→Nat→Nat × Nat × Nat):Prop where
 le:∀ls f m s n e,g ls f m=(s,n,e)→n≤m
 loc:∀ls f m s n f' m',g ls f m=(s,n,0)→n≤m'→(∀i,i<n→f' i=f i)→g ls f' m'=(s,n,0)
 cut:∀ls f m s n f' m',g ls f m=(s,n,0)→m'<n→(∀i,i<m'→f' i=f i)→(g ls f' m').2.2=10
 err:∀ls f m s n e f' m',g ls f m=(s,n,e)→e≠10→m≤m'→(∀i,i<m→f' i=f i)→g ls f' m'=(s,n,e)
section
variable (g:List Nat→(Nat→Bool)→Nat→Nat × Nat × Nat) (ce:List Nat→Nat→Bool→Nat)
def word (ls:List Nat):Rd Nat:=fun I p=>match g ls (fun i=>I.f (p+i)) (I.m-p) with
 | (s,n,0)=>.ok s (p+n)
 | (_,_,e+1)=>.bad (e+1)
theorem y0f {ls:List Nat} {I:In} {p s q:Nat} (h:word g ls I p=.ok s q):∃n,g ls (fun i=>I.f (p+i)) (I.m-p)=(s,n,0)∧q=p+n:=by
 unfold word at h
 split at h
 ·rename_i s' n' he
  simp only [Res.ok.injEq] at h
  obtain ⟨rfl,rfl⟩:=h
  exact ⟨_,he,rfl⟩
 ·cases h
theorem Loc.word (hg:GL g) (ls:List Nat):Loc (word g ls):=by
 refine ⟨fun I p x q hp h=>?_,fun I J p x q hp h ha hq=>?_,fun I J p x q hp h ha hpj hq=>?_,fun I J p e hp h h10 ha hm=>?_⟩
 ·obtain ⟨n,h1,rfl⟩:=y0f g h
  have:=hg.le _ _ _ _ _ _ h1
  omega
 ·obtain ⟨n,h1,rfl⟩:=y0f g h
  have h2:=hg.loc _ _ _ _ _ (fun i=>J.f (p+i)) (J.m-p) h1 (by omega) (fun i hi=>ha (p+i) (by omega))
  unfold Infl.word
  rw [h2]
 ·obtain ⟨n,h1,rfl⟩:=y0f g h
  have h2:=hg.cut _ _ _ _ _ (fun i=>J.f (p+i)) (J.m-p) h1 (by omega) (fun i hi=>ha (p+i) (by omega))
  unfold Infl.word
  rcases hr:g ls (fun i=>J.f (p+i)) (J.m-p) with ⟨s',n',e'⟩
  rw [hr] at h2
  simp only at h2
  subst h2
  rfl
 ·rcases hr:g ls (fun i=>I.f (p+i)) (I.m-p) with ⟨s',n',e'⟩
  unfold Infl.word at h
  rw [hr] at h
  cases e' with
  | zero=>cases h
  | succ e' =>
   injection h with h
   have h2:=hg.err _ _ _ _ _ _ (fun i=>J.f (p+i)) (J.m-p) hr (by omega) (by omega) (fun i hi=>ha (p+i) (by omega))
   unfold Infl.word
   rw [h2,←h]
def lenOf (s:Nat):Nat × Nat:=if s-257<8 then (3+(s-257),0) else if s-257=28 then (258,0) else (3+(4+(s-257)%4)*2^((s-257)/4-1),(s-257)/4-1)
def z0h (d:Nat):Nat × Nat:=if d<4 then (1+d,0) else (1+(2+d%2)*2^(d/2-1),d/2-1)
def tok (lits dists:List Nat) (most:Nat) (out:List Nat):Rd (Option (List Nat)) :=
 (word g lits).bind fun s =>
  if s=256 then Rd.pure none
  else if s<256 then (if most≤out.length then Rd.fail 3 else Rd.pure (some (out++[s])))
  else if 285<s then Rd.fail 11
  else (get (lenOf s).2).bind fun x=>(word g dists).bind fun d =>
   if 29<d then Rd.fail 11 else (get (z0h d).2).bind fun y =>
    if out.length<(z0h d).1+y then Rd.fail 14
    else if most<out.length+((lenOf s).1+x) then Rd.fail 3
    else Rd.pure (some (cp ((z0h d).1+y) ((lenOf s).1+x) out))
def toks (lits dists:List Nat) (most:Nat):Nat→List Nat→Rd (List Nat)
 | 0,_=>Rd.stuck
 | k+1,out=>(tok g lits dists most out).bind fun o=>match o with
  | none=>Rd.pure out
  | some out'=>toks lits dists most k out'
def bytes:Nat→List Nat→Rd (List Nat)
 | 0,out=>Rd.pure out
 | n+1,out=>(get 8).bind fun b=>bytes n (out++[b])
def stored (most:Nat) (out:List Nat):Rd (List Nat) :=
 align.bind fun _=>(get 16).bind fun n=>(get 16).bind fun m =>
  if m≠65535-n then Rd.fail 11 else if most<out.length+n then Rd.fail 3 else bytes n out
def threes:Nat→List Nat→Rd (List Nat)
 | 0,l=>Rd.pure l
 | k+1,l=>(get 3).bind fun v=>threes k (l++[v])
def order:List Nat:=[16,17,18,0,8,7,9,6,10,5,11,4,12,3,13,2,14,1,15]
def y9m (vs:List Nat):List Nat:=(List.range 19).map fun j=>vs.getD (order.idxOf j) 0
def lens (own:List Nat) (tot:Nat):Nat→List Nat→Rd (List Nat)
 | 0,all=>if tot≤all.length then Rd.pure all else Rd.stuck
 | k+1,all=>if tot≤all.length then Rd.pure all else
  (word g own).bind fun s =>
   if s=16 then (get 2).bind fun x=>if all=[] then Rd.fail 11 else if tot<all.length+(3+x) then Rd.fail 11 else lens own tot k (all++List.replicate (3+x) (all.getD (all.length-1) 0))
   else if s=17 then (get 3).bind fun x=>if tot<all.length+(3+x) then Rd.fail 11 else lens own tot k (all++List.replicate (3+x) 0)
   else if s=18 then (get 7).bind fun x=>if tot<all.length+(11+x) then Rd.fail 11 else lens own tot k (all++List.replicate (11+x) 0)
   else lens own tot k (all++[s])
def okE {α:Type} (e:Nat) (r:Rd α):Rd α:=if e=0 then r else Rd.fail e
def told (most fuel:Nat) (out:List Nat):Rd (List Nat) :=
 (get 5).bind fun l=>(get 5).bind fun d=>(get 4).bind fun k =>
  if 286<l+257∨30<d+1 then Rd.fail 11
  else (threes (k+4) []).bind fun vs=>okE (ce (y9m vs) 7 false) ((lens g (y9m vs) (l+257+(d+1)) (l+257+(d+1)) []).bind fun all =>
   if all.getD 256 0=0 then Rd.fail 11
   else okE (ce (all.take (l+257)) 15 true) (okE (ce (all.drop (l+257)) 15 true) (toks g (all.take (l+257)) (all.drop (l+257)) most fuel out)))
def z1b:List Nat:=(List.range 288).map fun i=>if 144≤i∧i<256 then 9 else if 256≤i∧i<280 then 7 else 8
def z1c:List Nat:=List.replicate 32 5
def block (most fuel:Nat) (out:List Nat):Rd (Nat × List Nat) :=
 (get 1).bind fun last=>(get 2).bind fun kind =>
  (if kind=0 then stored most out else if kind=1 then toks g z1b z1c most fuel out else if kind=2 then told g ce most fuel out else Rd.fail 16).bind fun o=>Rd.pure (last,o)
theorem Loc.ite {α:Type} {c:Prop} [Decidable c] {r r':Rd α} (h:Loc r) (h':Loc r'):Loc (if c then r else r'):=by
 split
 ·exact h
 ·exact h'
variable {g ce}
theorem Loc.tok (hg:GL g) (lits dists:List Nat) (most:Nat) (out:List Nat):Loc (tok g lits dists most out) :=
 (Loc.word g hg lits).bind fun s=>.ite (.pure _) (.ite (.ite (.fail _) (.pure _)) (.ite (.fail _) ((Loc.get _).bind fun x=>(Loc.word g hg dists).bind fun d=>.ite (.fail _) ((Loc.get _).bind fun y=>.ite (.fail _) (.ite (.fail _) (.pure _))))))
theorem Loc.toks (hg:GL g) (lits dists:List Nat) (most:Nat):∀k out,Loc (toks g lits dists most k out)
 | 0,_=>.stuck
 | k+1,out=>(Loc.tok hg lits dists most out).bind fun o=>match o with
  | none=>.pure _
  | some o'=>Loc.toks hg lits dists most k o'
theorem Loc.bytes:∀n out,Loc (bytes n out)
 | 0,out=>.pure _
 | n+1,out=>(Loc.get 8).bind fun b=>Loc.bytes n _
theorem Loc.stored (most:Nat) (out:List Nat):Loc (stored most out) :=
 Loc.align.bind fun _=>(Loc.get 16).bind fun n=>(Loc.get 16).bind fun m=>.ite (.fail _) (.ite (.fail _) (Loc.bytes n out))
theorem Loc.threes:∀k l,Loc (threes k l)
 | 0,l=>.pure _
 | k+1,l=>(Loc.get 3).bind fun v=>Loc.threes k _
theorem Loc.lens (hg:GL g) (own:List Nat) (tot:Nat):∀k all,Loc (lens g own tot k all)
 | 0,all=>.ite (.pure _) .stuck
 | k+1,all=>.ite (.pure _) ((Loc.word g hg own).bind fun s=>.ite ((Loc.get 2).bind fun x=>.ite (.fail _) (.ite (.fail _) (Loc.lens hg own tot k _)))
   (.ite ((Loc.get 3).bind fun x=>.ite (.fail _) (Loc.lens hg own tot k _)) (.ite ((Loc.get 7).bind fun x=>.ite (.fail _) (Loc.lens hg own tot k _)) (Loc.lens hg own tot k _))))
theorem Loc.okE {α:Type} (e:Nat) {r:Rd α} (h:Loc r):Loc (okE e r):=.ite h (.fail _)
theorem Loc.told (hg:GL g) (most fuel:Nat) (out:List Nat):Loc (told g ce most fuel out) :=
 (Loc.get 5).bind fun l=>(Loc.get 5).bind fun d=>(Loc.get 4).bind fun k=>.ite (.fail _) ((Loc.threes _ _).bind fun vs=>.okE _ ((Loc.lens hg _ _ _ _).bind fun all=>.ite (.fail _) (.okE _ (.okE _ (Loc.toks hg _ _ most fuel out)))))
theorem Loc.block (hg:GL g) (most fuel:Nat) (out:List Nat):Loc (block g ce most fuel out) :=
 (Loc.get 1).bind fun last=>(Loc.get 2).bind fun kind=>(Loc.ite (Loc.stored most out) (.ite (Loc.toks hg _ _ most fuel out) (.ite (Loc.told hg most fuel out) (.fail _)))).bind fun o=>.pure _
end
end Infl
namespace Infl
def down (f:Nat→Nat) (n:Nat):Nat→Nat
 | 0=>0
 | s+1=>if f (s+1)≤n then s+1 else down f n s
theorem y1l (f:Nat→Nat) (n:Nat):∀s,down f n s≤s
 | 0=>Nat.le_refl _
 | s+1=>by
  unfold down
  split
  ·exact Nat.le_refl _
  ·have:=y1l f n s;omega
theorem y1k (f:Nat→Nat) (n:Nat) (a:Nat) (ha:f a≤n):∀s,a≤s→a≤down f n s∧f (down f n s)≤n∧∀t,down f n s<t→t≤s→n<f t
 | 0,h=>by
  obtain rfl:a=0:=by omega
  exact ⟨Nat.le_refl _,ha,fun t h1 h2=>by simp [down] at h1;omega⟩
 | s+1,h=>by
  unfold down
  by_cases hc:f (s+1)≤n
  ·rw [if_pos hc]
   exact ⟨h,hc,fun t h1 h2=>by omega⟩
  ·rw [if_neg hc]
   have has:a≤s:=by
    rcases Nat.lt_or_ge s a with h'|h'
    ·obtain rfl:a=s+1:=by omega
     exact absurd ha hc
    ·exact h'
   obtain ⟨i1,i2,i3⟩:=y1k f n a ha s has
   refine ⟨i1,i2,fun t h1 h2=>?_⟩
   by_cases e:t=s+1
   ·subst e;omega
   ·exact i3 t h1 (by omega)
def symL (n:Nat):Nat:=down (fun s=>(lenOf s).1) n 285
def symD (d:Nat):Nat:=down (fun s=>(z0h s).1) d 29
theorem w1e:∀i,i<27→(lenOf (257+(i+1))).1=(lenOf (257+i)).1+2^(lenOf (257+i)).2:=by decide
theorem x5r:∀s,s<29→(z0h (s+1)).1=(z0h s).1+2^(z0h s).2:=by decide
theorem z6z (n:Nat) (h1:3≤n) (h2:n≤258):257≤symL n∧symL n≤285∧(lenOf (symL n)).1≤n∧n-(lenOf (symL n)).1<2^(lenOf (symL n)).2:=by
 obtain ⟨i1,i2,i3⟩:=y1k (fun s=>(lenOf s).1) n 257 (by show (lenOf 257).1≤n;have:(lenOf 257).1=3:=rfl;omega) 285 (by decide)
 have hle:=y1l (fun s=>(lenOf s).1) n 285
 refine ⟨i1,hle,i2,?_⟩
 show n-(lenOf (down _ n 285)).1<_
 unfold symL
 generalize hs:down (fun s=>(lenOf s).1) n 285=s at *
 by_cases e:s=285
 ·subst e
  have e1:(lenOf 285).1=258:=rfl
  have e2:(lenOf 285).2=0:=rfl
  rw [e1,e2];simp;omega
 ·have h3:=i3 (s+1) (by omega) (by omega)
  by_cases e4:s=284
  ·subst e4
   have e1:(lenOf 284).1=227:=rfl
   have e2:(lenOf 284).2=5:=rfl
   have e3:(lenOf 285).1=258:=rfl
   have h3':n<(lenOf 285).1:=h3
   rw [e3] at h3'
   rw [e1,e2];omega
  ·have hn:=w1e (s-257) (by omega)
   rw [show 257+(s-257+1)=s+1 from by omega,show 257+(s-257)=s from by omega] at hn
   have h3':n<(lenOf (s+1)).1:=h3
   have i2':(lenOf s).1≤n:=i2
   omega
theorem z6y (d:Nat) (h1:1≤d) (h2:d≤32768):symD d≤29∧(z0h (symD d)).1≤d∧d-(z0h (symD d)).1<2^(z0h (symD d)).2:=by
 obtain ⟨i1,i2,i3⟩:=y1k (fun s=>(z0h s).1) d 0 (by show (z0h 0).1≤d;have:(z0h 0).1=1:=rfl;omega) 29 (by decide)
 have hle:=y1l (fun s=>(z0h s).1) d 29
 refine ⟨hle,i2,?_⟩
 unfold symD
 generalize hs:down (fun s=>(z0h s).1) d 29=s at *
 by_cases e:s=29
 ·subst e
  have e1:(z0h 29).1=24577:=rfl
  have e2:(z0h 29).2=13:=rfl
  rw [e1,e2];omega
 ·have h3:=i3 (s+1) (by omega) (by omega)
  have hn:=x5r s (by omega)
  have h3':d<(z0h (s+1)).1:=h3
  have i2':(z0h s).1≤d:=i2
  omega
end Infl
section
open Go.RowKit
section
variable {P:Program} {md:Region.Mode} {ops:Array Oper} {Q:Exit→Act→World→Prop} {S S':World→Prop}
theorem x6n {oi:Oper} {v:Value} {fuel:Nat} {listed:Array Bool} {l:List Value} {df:List Deferred} {w:World} (i d:Nat) (hi:ops[i]?=some oi) (hd:oi.dst=some d)
  (hs:Region.noSelect ops=true) (hf:Region.free md ops listed i=true) (hr:(Region.ready md ops listed).contains i=true)
  (hw:Region.wanted oi (yielded ops l.toArray)=true) (hS:S w) (hQ:∀c a w,¬Q (.panic c) a w)
  (hy:∀x,S x→(execOp (Act.eval ⟨l.toArray,df⟩) oi).run P x=.ok (.value v) x)
  (h:wpAnyH P md ops Q S fuel (listed.setIfInBounds i true) ⟨(l.set d v).toArray,df⟩ w):wpAnyH P md ops Q S (fuel+1) listed ⟨l.toArray,df⟩ w:=by
 refine wpAnyH_take (i:=i) (v:=v) hi hs hf hr (fun c a w h=>absurd h (hQ _ _ _)) (Or.inl ⟨hw,hy⟩) hS ?_
 have e:Act.put (⟨l.toArray,df⟩:Act) oi.dst v=⟨(l.set d v).toArray,df⟩:=by rw [hd];simp [Act.put]
 rw [e]
 exact h
theorem hT {oi:Oper} {v:Value} {fuel:Nat} {listed:Array Bool} {l:List Value} {df:List Deferred} {w:World} (i d:Nat) (hi:ops[i]?=some oi) (hd:oi.dst=some d) (hS:S w) (hQ:∀c a w,¬Q (.panic c) a w) (hy:∀x,S x→(execOp (Act.eval ⟨l.toArray,df⟩) oi).run P x=.ok (.value v) x) (h:wpAnyH P md ops Q S fuel (listed.setIfInBounds i true) ⟨(l.set d v).toArray,df⟩ w) (hs:Region.noSelect ops=true:=by kernel_rfl) (hf:Region.free md ops listed i=true:=by kernel_rfl) (hr:(Region.ready md ops listed).contains i=true:=by kernel_rfl) (hw:Region.wanted oi (yielded ops l.toArray)=true:=by rfl):wpAnyH P md ops Q S (fuel+1) listed ⟨l.toArray,df⟩ w:=x6n i d hi hd hs hf hr hw hS hQ hy h
theorem z0u {o:Oper} {f:FuncId} {args:Array Value} {fuel:Nat} {listed:Array Bool} {l:List Value} {df:List Deferred} {w:World} (i d:Nat) (hr:Region.ready md ops listed=[i]) (hi:ops[i]?=some o) (hd:o.dst=some d)
  (hw:Region.wanted o (yielded ops l.toArray)=true) (hrun:(execOp (Act.eval ⟨l.toArray,df⟩) o).run P w=.ok (.enter f args) w)
  (h:Calls P f args w fun e w'=>∃v,e=.returned v∧S w'∧wpAnyH P md ops Q S fuel (listed.setIfInBounds i true) ⟨(l.set d v).toArray,df⟩ w'):wpAnyH P md ops Q S (fuel+1) listed ⟨l.toArray,df⟩ w:=by
 refine wpAnyH_ready hr (by simp) (AllReadyH.cons hi (fun K hK=>?_) AllReadyH.nil)
 rw [if_pos hw]
 unfold Oper.wp
 rw [hrun,Oper.upon_enter]
 refine h.mono ?_
 rintro e w' ⟨v,rfl,hS,h2⟩
 have e:Act.put (⟨l.toArray,df⟩:Act) o.dst v=⟨(l.set d v).toArray,df⟩:=by rw [hd];simp [Act.put]
 show K (Act.put ⟨l.toArray,df⟩ o.dst v) w'
 rw [e]
 exact hK.out _ _ hS (fun _=>h2)
end
theorem z6h {P:Program} {id:Nat} {Q:Exit→Act→World→Prop} {a:Act} {w:World} {l:List Oper} (n:Nat) (hm:P.follows .mixedOrders=true) (hB:Region.lexTailB .any l.toArray n=true)
  (h:wpStill P l.toArray w.drew (fun a'=>wpList P l.toArray Q (l.drop n) a' w.drew) (l.take n) a):(Code.region id l.toArray true).wp P Q a w:=wp_region_still_tail n hm hB h
theorem nPp {Q:Exit→Act→World→Prop} (c:List PanicEntry) (a:Act) (w:World):¬NoPanic Q (.panic c) a w:=fun h=>h
end
section
open Go.RowKit
theorem qz {p:Prop} (h:p):Hid p:=h
theorem uh {p:Prop} (h:Hid p):p:=h
def bv (z:Nat):Value:=.int .u8 (z:Int)
theorem info5:(Tryz.prog.info? 5).map (fun i=>(i.zero,i.size,i.bytes))=some (some (.int .u8 0),1,1):=by kernel_rfl
def Reads (w:World) (v:Value) (zs:List Nat):Prop :=
 ∃a cap,v=.slice a zs.length cap∧(0<zs.length→∃ad,a=some ad∧∀ (j:Nat) u,(zs.map bv)[j]?=some u→w.cell? (ad.add j)=some u)
theorem z5k {w:World} {base e n g cap:Nat} {xs:List Value} (h:w.ownsRow base e 1 (.slice (some ⟨g,0,none⟩) n cap) n xs) (hc:cap=n):w.heap[g]?=some (.cells xs.toArray e (0,0))∧base≤g:=by
 obtain ⟨hl,hr⟩:=h
 rcases hr with ⟨e,_⟩|⟨g',cap',cur,e,hb,hh,hn,hcc,hs,ht⟩
 ·cases e
 ·injection e with e1 e2 e3
  injection e1 with e1
  injection e1 with e1
  subst e1 e3 hc
  rw [hh,←ht,List.take_of_length_le (by simp [hs])]
  exact ⟨rfl,hb⟩
theorem z1e {w:World} {p:Addr} {u:Value} (h:w.cell? p=some u):p.block<w.heap.size:=by
 rcases Nat.lt_or_ge p.block w.heap.size with h'|h'
 ·exact h'
 ·simp [World.cell?,Array.getElem?_eq_none h'] at h
theorem z0a {w w1:World} (hb:Below w.heap.size w w1) {p:Addr} {u:Value} (h:w.cell? p=some u):w1.cell? p=some u:=by
 rw [hb.cell (z1e h)];exact h
theorem Reads.stays {w w1:World} (hb:Below w.heap.size w w1) {v:Value} {zs:List Nat} (h:Reads w v zs):Reads w1 v zs:=by
 obtain ⟨a,cap,rfl,hs⟩:=h
 refine ⟨a,cap,rfl,fun h0=>?_⟩
 obtain ⟨ad,rfl,h2⟩:=hs h0
 exact ⟨ad,rfl,fun j u hj=>z0a hb (h2 j u hj)⟩
theorem x3v (xs zs:List Value) (h:xs.length=zs.length):splice xs 0 zs=zs:=by
 simp [splice,h]
theorem Reads.spot {w:World} {v:Value} {zs:List Nat} (h:Reads w v zs):∃a cap,v=.slice a zs.length cap∧(0<zs.length→∃b off,a=some ⟨b,off,none⟩∧∀j,j<zs.length→w.cell? ⟨b,off+j,none⟩=some (.int .u8 (zs.getD j 0:Int))):=by
 obtain ⟨a,cap,rfl,hs⟩:=h
 refine ⟨a,cap,rfl,fun h0=>?_⟩
 obtain ⟨⟨b,off,sp⟩,rfl,hc⟩:=hs h0
 have h1:=hc 0 (bv (zs.getD 0 0)) (by simp [h0])
 have hsp:sp=none:=by simpa [Addr.add] using World.cell?_spot h1
 subst hsp
 refine ⟨b,off,rfl,fun j hj=>?_⟩
 have h2:=hc j (bv (zs.getD j 0)) (by simp [hj])
 have e:(⟨b,off,none⟩:Addr).add j=⟨b,off+j,none⟩:=by by_cases hq:j=0<;>simp [Addr.add,hq]
 rw [e] at h2
 exact h2
theorem x0y (zs:List Nat) (i:Nat) (h:i<zs.length):zs.getD i 0∈zs:=by
 rw [List.getD_eq_getElem?_getD,List.getElem?_eq_getElem h];exact List.getElem_mem _
theorem x5p (w:World) (a:Option Addr) (cap:Nat):(convert 22 9 (.slice a 0 cap)).run Tryz.prog w=.ok (.string ⟨#[]⟩) w:=by
 rw [run_convert_bytes_string w 22 9 5 a 0 cap Tryz.underlying22 Tryz.underlying5 Tryz.underlying9]
 cases a<;>simp [Conv.bytesToString,loadCells]<;>rfl
theorem y3l {w:World} {v:Value} {zs:List Nat} (h:Reads w v zs) (hs:∀z∈zs,z<256):(convert 22 9 v).run Tryz.prog w=.ok (.string ⟨(zs.map UInt8.ofNat).toArray⟩) w:=by
 by_cases h0:zs.length=0
 ·obtain ⟨a,cap,rfl,_⟩:=h
  obtain rfl:zs=[]:=List.eq_nil_of_length_eq_zero h0
  exact x5p w a cap
 ·obtain ⟨a,cap,rfl,hc⟩:=h
  obtain ⟨ad,rfl,hc2⟩:=hc (by omega)
  have:=run_convert_bytes_back w 22 9 5 ad cap (zs.map UInt8.ofNat) Tryz.underlying22 Tryz.underlying5 Tryz.underlying9 (by
   intro j hj
   simp at hj
   have hzj:=hs zs[j] (List.getElem_mem hj)
   rw [hc2 j (bv zs[j]) (by simp [hj])]
   simp [bv,Nat.mod_eq_of_lt hzj])
  simpa using this
theorem z0b {w:World} {k:Nat} {o:Obj} (h:w.heap[k]?=some o):k<w.heap.size:=by
 rcases Nat.lt_or_ge k w.heap.size with h'|h'
 ·exact h'
 ·rw [Array.getElem?_eq_none h'] at h;cases h
theorem z4j {w:World} (x:Value) (t:TypeId):∀ (j:Nat) u,[x][j]?=some u→(w.alloc (.cells #[x] t)).cell? ((⟨w.heap.size,0,none⟩:Addr).add j)=some u:=by
 intro j u hj
 match j,hj with
 | 0,hj=>simp at hj;subst hj;simp [Addr.add]
theorem z0y {w w':World} {base e size n:Nat} {v:Value} {xs:List Value} (h:w.ownsRow base e size v n xs) (h2:∀g,v.ownBlock=some g→w'.heap[g]?=w.heap[g]?):w'.ownsRow base e size v n xs:=by
 obtain ⟨hl,hr⟩:=h
 refine ⟨hl,?_⟩
 rcases hr with e|⟨g,cap,cur,e,hb,hh,r⟩
 ·exact .inl e
 ·exact .inr ⟨g,cap,cur,e,hb,by rw [h2 g (by rw [e];rfl)];exact hh,r⟩
end
section
open Go.RowKit
def iv (z:Int):Value:=.int .i64 z
theorem info3':(Tryz.prog.info? 3).map (fun i=>(i.zero,i.size,i.bytes))=some (some (.int .i64 0),1,8):=by kernel_rfl
section
variable {P:Program} {md:Region.Mode} {ops:Array Oper} {Q:Exit→Act→World→Prop} {S:World→Prop}
theorem z0n {o:Oper} {v:Value} {fuel:Nat} {listed:Array Bool} {l:List Value} {df:List Deferred} {w w':World} {K:Act→World→Prop} (i d:Nat)
  (hK:Shut (∀a w,S w→(S w→wpAnyH P md ops Q S fuel (listed.setIfInBounds i true) a w)→K a w)) (hd:o.dst=some d)
  (hw:Region.wanted o (yielded ops l.toArray)=true) (hrun:(execOp (Act.eval ⟨l.toArray,df⟩) o).run P w=.ok (.value v) w') (hS:S w')
  (h:wpAnyH P md ops Q S fuel (listed.setIfInBounds i true) ⟨(l.set d v).toArray,df⟩ w') :
  if Region.wanted o (yielded ops (⟨l.toArray,df⟩:Act).tmps)=true then Oper.wp P o ⟨l.toArray,df⟩ w K Q else K ((⟨l.toArray,df⟩:Act).put o.dst undef) w:=by
 rw [if_pos hw]
 unfold Oper.wp
 rw [hrun,Oper.upon_value]
 have e:Act.put (⟨l.toArray,df⟩:Act) o.dst v=⟨(l.set d v).toArray,df⟩:=by rw [hd];simp [Act.put]
 rw [e]
 exact hK.out _ _ hS (fun _=>h)
theorem z4q {o:Oper} {f:FuncId} {args:Array Value} {fuel:Nat} {listed:Array Bool} {l:List Value} {df:List Deferred} {w:World} {K:Act→World→Prop} (i d:Nat)
  (hK:Shut (∀a w,S w→(S w→wpAnyH P md ops Q S fuel (listed.setIfInBounds i true) a w)→K a w)) (hd:o.dst=some d)
  (hw:Region.wanted o (yielded ops l.toArray)=true) (hrun:(execOp (Act.eval ⟨l.toArray,df⟩) o).run P w=.ok (.enter f args) w)
  (h:Calls P f args w fun e w'=>∃v,e=.returned v∧S w'∧wpAnyH P md ops Q S fuel (listed.setIfInBounds i true) ⟨(l.set d v).toArray,df⟩ w') :
  if Region.wanted o (yielded ops (⟨l.toArray,df⟩:Act).tmps)=true then Oper.wp P o ⟨l.toArray,df⟩ w K Q else K ((⟨l.toArray,df⟩:Act).put o.dst undef) w:=by
 rw [if_pos hw]
 unfold Oper.wp
 rw [hrun,Oper.upon_enter]
 refine h.mono ?_
 rintro e w' ⟨v,rfl,hS,h2⟩
 have e:Act.put (⟨l.toArray,df⟩:Act) o.dst v=⟨(l.set d v).toArray,df⟩:=by rw [hd];simp [Act.put]
 show K (Act.put ⟨l.toArray,df⟩ o.dst v) w'
 rw [e]
 exact hK.out _ _ hS (fun _=>h2)
theorem z1s {fuel:Nat} {listed:Array Bool} {a:Act} {w:World} {i j:Nat} {o1 o2:Oper} (hr:Region.ready md ops listed=[i,j]) (h1:ops[i]?=some o1) (h2:ops[j]?=some o2)
  (k1:∀K:Act→World→Prop,Shut (∀a w,S w→(S w→wpAnyH P md ops Q S fuel (listed.setIfInBounds i true) a w)→K a w)→if Region.wanted o1 (yielded ops a.tmps)=true then Oper.wp P o1 a w K Q else K (a.put o1.dst undef) w)
  (k2:∀K:Act→World→Prop,Shut (∀a w,S w→(S w→wpAnyH P md ops Q S fuel (listed.setIfInBounds j true) a w)→K a w)→if Region.wanted o2 (yielded ops a.tmps)=true then Oper.wp P o2 a w K Q else K (a.put o2.dst undef) w) :
  wpAnyH P md ops Q S (fuel+1) listed a w:=wpAnyH_ready hr (by simp) (AllReadyH.cons h1 k1 (AllReadyH.cons h2 k2 AllReadyH.nil))
theorem z5s {fuel:Nat} {listed:Array Bool} {a:Act} {w:World} {i j k:Nat} {o1 o2 o3:Oper} (hr:Region.ready md ops listed=[i,j,k]) (h1:ops[i]?=some o1) (h2:ops[j]?=some o2) (h3:ops[k]?=some o3)
  (k1:∀K:Act→World→Prop,Shut (∀a w,S w→(S w→wpAnyH P md ops Q S fuel (listed.setIfInBounds i true) a w)→K a w)→if Region.wanted o1 (yielded ops a.tmps)=true then Oper.wp P o1 a w K Q else K (a.put o1.dst undef) w)
  (k2:∀K:Act→World→Prop,Shut (∀a w,S w→(S w→wpAnyH P md ops Q S fuel (listed.setIfInBounds j true) a w)→K a w)→if Region.wanted o2 (yielded ops a.tmps)=true then Oper.wp P o2 a w K Q else K (a.put o2.dst undef) w)
  (k3:∀K:Act→World→Prop,Shut (∀a w,S w→(S w→wpAnyH P md ops Q S fuel (listed.setIfInBounds k true) a w)→K a w)→if Region.wanted o3 (yielded ops a.tmps)=true then Oper.wp P o3 a w K Q else K (a.put o3.dst undef) w) :
  wpAnyH P md ops Q S (fuel+1) listed a w:=wpAnyH_ready hr (by simp) (AllReadyH.cons h1 k1 (AllReadyH.cons h2 k2 (AllReadyH.cons h3 k3 AllReadyH.nil)))
theorem x0z {o:Oper} {v:Value} {fuel:Nat} {listed:Array Bool} {l:List Value} {df:List Deferred} {w w':World} (i d:Nat) (hr:Region.ready md ops listed=[i]) (hi:ops[i]?=some o) (hd:o.dst=some d)
  (hw:Region.wanted o (yielded ops l.toArray)=true) (hrun:(execOp (Act.eval ⟨l.toArray,df⟩) o).run P w=.ok (.value v) w') (hS:S w')
  (h:wpAnyH P md ops Q S fuel (listed.setIfInBounds i true) ⟨(l.set d v).toArray,df⟩ w'):wpAnyH P md ops Q S (fuel+1) listed ⟨l.toArray,df⟩ w :=
 wpAnyH_ready hr (by simp) (AllReadyH.cons hi (fun K hK=>z0n i d hK hd hw hrun hS h) AllReadyH.nil)
theorem x6m {o:Oper} {fuel:Nat} {listed:Array Bool} {a:Act} {w w':World} (i:Nat) (hr:Region.ready md ops listed=[i]) (hi:ops[i]?=some o) (hd:o.dst=none)
  (hw:Region.wanted o (yielded ops a.tmps)=true) (hrun:(execOp (Act.eval a) o).run P w=.ok .skip w') (hS:S w')
  (h:wpAnyH P md ops Q S fuel (listed.setIfInBounds i true) a w'):wpAnyH P md ops Q S (fuel+1) listed a w:=by
 refine wpAnyH_ready hr (by simp) (AllReadyH.cons hi (fun K hK=>?_) AllReadyH.nil)
 rw [if_pos hw]
 unfold Oper.wp
 rw [hrun,Oper.upon_skip]
 have e:Act.put a o.dst undef=a:=by rw [hd];rfl
 rw [e]
 exact hK.out _ _ hS (fun _=>h)
theorem hO {o:Oper} {v:Value} {fuel:Nat} {listed:Array Bool} {l:List Value} {df:List Deferred} {w w':World} (i d:Nat) (hi:ops[i]?=some o) (hd:o.dst=some d) (hrun:(execOp (Act.eval ⟨l.toArray,df⟩) o).run P w=.ok (.value v) w') (hS:S w') (h:wpAnyH P md ops Q S fuel (listed.setIfInBounds i true) ⟨(l.set d v).toArray,df⟩ w') (hr:Region.ready md ops listed=[i]:=by kernel_rfl) (hw:Region.wanted o (yielded ops l.toArray)=true:=by rfl):wpAnyH P md ops Q S (fuel+1) listed ⟨l.toArray,df⟩ w:=x0z i d hr hi hd hw hrun hS h
theorem hKk {o:Oper} {fuel:Nat} {listed:Array Bool} {a:Act} {w w':World} (i:Nat) (hi:ops[i]?=some o) (hd:o.dst=none) (hrun:(execOp (Act.eval a) o).run P w=.ok .skip w') (hS:S w') (h:wpAnyH P md ops Q S fuel (listed.setIfInBounds i true) a w') (hr:Region.ready md ops listed=[i]:=by kernel_rfl) (hw:Region.wanted o (yielded ops a.tmps)=true:=by rfl):wpAnyH P md ops Q S (fuel+1) listed a w:=x6m i hr hi hd hw hrun hS h
end
end
namespace R8
open Go.RowKit Infl
def y0n (s:Int):Value:=if s<257∨285<s then .tuple #[.int .i64 0,.int .i64 0,.int .i64 2] else .tuple #[.int .i64 ((lenOf s.toNat).1:Int),.int .i64 ((lenOf s.toNat).2:Int),.int .i64 0]
def z6m (s:Int):Value:=if s<0∨29<s then .tuple #[.int .i64 0,.int .i64 0,.int .i64 2] else .tuple #[.int .i64 ((z0h s.toNat).1:Int),.int .i64 ((z0h s.toNat).2:Int),.int .i64 0]
theorem x8o (s:Int) (w:World):Calls Tryz.prog 69 #[.int .i64 s] w fun e w'=>e=.returned (y0n s)∧w'=w:=by
 unfold y0n
 by_cases h1:s<257∨285<s
 ·rw [if_pos h1]
  rcases h1 with h1|h1
  ·go_enter Tryz.func69,Tryz.ntmps69
   go_wp2_with fail
   go_ret3
   exact ⟨rfl,rfl⟩
  ·have g1:¬s<257:=by omega
   go_enter Tryz.func69,Tryz.ntmps69
   go_wp2_with fail
   go_ret3
   exact ⟨rfl,rfl⟩
 ·rw [if_neg h1]
  have hc:s=257∨s=258∨s=259∨s=260∨s=261∨s=262∨s=263∨s=264∨s=265∨s=266∨s=267∨s=268∨s=269∨s=270∨s=271∨s=272∨s=273∨s=274∨s=275∨s=276∨s=277∨s=278∨s=279∨s=280∨s=281∨s=282∨s=283∨s=284∨s=285:=by omega
  clear h1
  rcases hc with rfl|rfl|rfl|rfl|rfl|rfl|rfl|rfl|rfl|rfl|rfl|rfl|rfl|rfl|rfl|rfl|rfl|rfl|rfl|rfl|rfl|rfl|rfl|rfl|rfl|rfl|rfl|rfl|rfl
  all_goals
   go_enter Tryz.func69,Tryz.ntmps69
   go_wp2_with fail
   go_ret3
   exact ⟨rfl,rfl⟩
theorem x1o (s:Int) (w:World):Calls Tryz.prog 70 #[.int .i64 s] w fun e w'=>e=.returned (z6m s)∧w'=w:=by
 unfold z6m
 by_cases h1:s<0∨29<s
 ·rw [if_pos h1]
  rcases h1 with h1|h1
  ·go_enter Tryz.func70,Tryz.ntmps70
   go_wp2_with fail
   go_ret3
   exact ⟨rfl,rfl⟩
  ·have g1:¬s<0:=by omega
   go_enter Tryz.func70,Tryz.ntmps70
   go_wp2_with fail
   go_ret3
   exact ⟨rfl,rfl⟩
 ·rw [if_neg h1]
  have hc:s=0∨s=1∨s=2∨s=3∨s=4∨s=5∨s=6∨s=7∨s=8∨s=9∨s=10∨s=11∨s=12∨s=13∨s=14∨s=15∨s=16∨s=17∨s=18∨s=19∨s=20∨s=21∨s=22∨s=23∨s=24∨s=25∨s=26∨s=27∨s=28∨s=29:=by omega
  clear h1
  rcases hc with rfl|rfl|rfl|rfl|rfl|rfl|rfl|rfl|rfl|rfl|rfl|rfl|rfl|rfl|rfl|rfl|rfl|rfl|rfl|rfl|rfl|rfl|rfl|rfl|rfl|rfl|rfl|rfl|rfl|rfl
  all_goals
   go_enter Tryz.func70,Tryz.ntmps70
   go_wp2_with fail
   go_ret3
   exact ⟨rfl,rfl⟩
def x9d (n:Int):Value:=if n<3∨258<n then .tuple #[.int .i64 0,.int .i64 0,.int .i64 2] else .tuple #[.int .i64 (symL n.toNat:Int),.int .i64 ((n.toNat-(lenOf (symL n.toNat)).1:Nat):Int),.int .i64 0]
theorem w4y (n:Int) (w:World):Calls Tryz.prog 40 #[.int .i64 n] w fun e w'=>e=.returned (x9d n)∧w'=w:=by
 unfold x9d
 by_cases h1:n<3∨258<n
 ·rw [if_pos h1]
  by_cases h2:n<3
  ·have b1:decide (n<3)=true:=by simp;omega
   clear h1
   go_enter Tryz.func40,Tryz.ntmps40
   go_wp2_with fail
   go_ret3
   exact ⟨rfl,rfl⟩
  ·have b1:decide (n<3)=false:=by simp;omega
   have h3:258<n:=by omega
   have b2:decide (258<n)=true:=by simp;omega
   clear h1
   go_enter Tryz.func40,Tryz.ntmps40
   go_wp2_with fail
   go_ret3
   exact ⟨rfl,rfl⟩
 ·rw [if_neg h1]
  obtain ⟨m,rfl⟩:=Int.eq_ofNat_of_zero_le (show 0≤n by omega)
  have b0:¬ (m:Int)<3:=by omega
  have b1:decide ((m:Int)<3)=false:=by simp;omega
  have b2:¬258<(m:Int):=by omega
  have b3:decide (258<(m:Int))=false:=by simp;omega
  have hm1:3≤m:=by omega
  clear h1
  simp only [Int.toNat_natCast]
  have HS:Hid (symL m=down (fun s=>(lenOf s).1) m 285):=qz rfl
  go_enter Tryz.func40,Tryz.ntmps40
  go_wp2_with fail
  go_loopg [5] 286 (fun gk l ws=>∃s:Nat,gk=s+1∧257≤s∧s≤285∧l=.int .i64 (s:Int)∧ws=w∧Hid (symL m=down (fun s=>(lenOf s).1) m s))
  case atStart=>exact ⟨285,rfl,by omega,by omega,rfl,rfl,HS⟩
  case round =>
   obtain ⟨s,rfl,hs1,hs2,rfl,rfl,hd⟩:=hrel
   have HL:=x8o (s:Int) wr
   unfold y0n at HL
   rw [if_neg (by omega)] at HL
   simp only [Int.toNat_natCast] at HL
   obtain ⟨le,hle⟩:∃le,le=(lenOf s).1:=⟨_,rfl⟩
   rw [←hle] at HL
   generalize (lenOf s).2=ex at HL
   have HL:=qz HL
   have HLE:=qz hle
   have hle2:le≤100000:=by
    rw [hle]
    have:∀i,i<29→(lenOf (257+i)).1≤100000:=by decide
    have:=this (s-257) (by omega)
    rwa [show 257+(s-257)=s from by omega] at this
   clear HS
   by_cases hc:le≤m
   ·have t1:(le:Int)≤(m:Int):=by omega
    have HE:Hid (symL m=s∧((m-(lenOf s).1:Nat):Int)=(m:Int)-(le:Int)):=qz (by
     refine ⟨?_,by rw [←hle];omega⟩
     rw [uh hd]
     cases s with
     | zero=>rfl
     | succ s=>unfold down;rw [if_pos (by rw [←hle];exact hc)])
    clear hle hd
    go_wp2_with fail
    refine (uh HL).mono ?_
    rintro e w1 ⟨rfl,rfl⟩
    go_wp2_with fail
    go_ret3
    obtain ⟨e1,e2⟩:=uh HE
    rw [e1,e2]
    exact ⟨rfl,rfl⟩
   ·have t1:¬ (le:Int)≤(m:Int):=by omega
    have hs3:257<s:=by
     rcases Nat.lt_or_ge 257 s with h|h
     ·exact h
     ·exfalso
      obtain rfl:s=257:=by omega
      have:(lenOf 257).1=3:=rfl
      omega
    have HD:Hid (symL m=down (fun s=>(lenOf s).1) m (s-1)):=qz (by
     rw [uh hd]
     obtain ⟨t,rfl⟩:∃t,s=t+1:=⟨s-1,by omega⟩
     rw [down,if_neg (by rw [←hle];exact hc)]
     rfl)
    clear hle hd
    go_wp2_with fail
    refine (uh HL).mono ?_
    rintro e w1 ⟨rfl,hw⟩
    subst w1
    go_wp2_with fail
    go_roundg s
    case measure=>omega
    case rel=>exact ⟨s-1,by omega,by omega,by omega,by go_num,rfl,HD⟩
def x5u (n:Int):Value:=if n<1∨32768<n then .tuple #[.int .i64 0,.int .i64 0,.int .i64 2] else .tuple #[.int .i64 (symD n.toNat:Int),.int .i64 ((n.toNat-(z0h (symD n.toNat)).1:Nat):Int),.int .i64 0]
theorem w4w (n:Int) (w:World):Calls Tryz.prog 41 #[.int .i64 n] w fun e w'=>e=.returned (x5u n)∧w'=w:=by
 unfold x5u
 by_cases h1:n<1∨32768<n
 ·rw [if_pos h1]
  by_cases h2:n<1
  ·have b1:decide (n<1)=true:=by simp;omega
   clear h1
   go_enter Tryz.func41,Tryz.ntmps41
   go_wp2_with fail
   go_ret3
   exact ⟨rfl,rfl⟩
  ·have b1:decide (n<1)=false:=by simp;omega
   have h3:32768<n:=by omega
   have b2:decide (32768<n)=true:=by simp;omega
   clear h1
   go_enter Tryz.func41,Tryz.ntmps41
   go_wp2_with fail
   go_ret3
   exact ⟨rfl,rfl⟩
 ·rw [if_neg h1]
  obtain ⟨m,rfl⟩:=Int.eq_ofNat_of_zero_le (show 0≤n by omega)
  have b0:¬ (m:Int)<1:=by omega
  have b1:decide ((m:Int)<1)=false:=by simp;omega
  have b2:¬32768<(m:Int):=by omega
  have b3:decide (32768<(m:Int))=false:=by simp;omega
  have hm1:1≤m:=by omega
  clear h1
  simp only [Int.toNat_natCast]
  have HS:Hid (symD m=down (fun s=>(z0h s).1) m 29):=qz rfl
  go_enter Tryz.func41,Tryz.ntmps41
  go_wp2_with fail
  go_loopg [5] 30 (fun gk l ws=>∃s:Nat,gk=s+1∧0≤s∧s≤29∧l=.int .i64 (s:Int)∧ws=w∧Hid (symD m=down (fun s=>(z0h s).1) m s))
  case atStart=>exact ⟨29,rfl,by omega,by omega,rfl,rfl,HS⟩
  case round =>
   obtain ⟨s,rfl,hs1,hs2,rfl,rfl,hd⟩:=hrel
   have HL:=x1o (s:Int) wr
   unfold z6m at HL
   rw [if_neg (by omega)] at HL
   simp only [Int.toNat_natCast] at HL
   obtain ⟨le,hle⟩:∃le,le=(z0h s).1:=⟨_,rfl⟩
   rw [←hle] at HL
   generalize (z0h s).2=ex at HL
   have HL:=qz HL
   have HLE:=qz hle
   have hle2:le≤100000:=by
    rw [hle]
    have:∀i,i<30→(z0h (0+i)).1≤100000:=by decide
    have:=this (s-0) (by omega)
    rwa [show 0+(s-0)=s from by omega] at this
   clear HS
   by_cases hc:le≤m
   ·have t1:(le:Int)≤(m:Int):=by omega
    have HE:Hid (symD m=s∧((m-(z0h s).1:Nat):Int)=(m:Int)-(le:Int)):=qz (by
     refine ⟨?_,by rw [←hle];omega⟩
     rw [uh hd]
     cases s with
     | zero=>rfl
     | succ s=>unfold down;rw [if_pos (by rw [←hle];exact hc)])
    clear hle hd
    go_wp2_with fail
    refine (uh HL).mono ?_
    rintro e w1 ⟨rfl,rfl⟩
    go_wp2_with fail
    go_ret3
    obtain ⟨e1,e2⟩:=uh HE
    rw [e1,e2]
    exact ⟨rfl,rfl⟩
   ·have t1:¬ (le:Int)≤(m:Int):=by omega
    have hs3:0<s:=by
     rcases Nat.lt_or_ge 0 s with h|h
     ·exact h
     ·exfalso
      obtain rfl:s=0:=by omega
      have:(z0h 0).1=1:=rfl
      omega
    have HD:Hid (symD m=down (fun s=>(z0h s).1) m (s-1)):=qz (by
     rw [uh hd]
     obtain ⟨t,rfl⟩:∃t,s=t+1:=⟨s-1,by omega⟩
     rw [down,if_neg (by rw [←hle];exact hc)]
     rfl)
    clear hle hd
    go_wp2_with fail
    refine (uh HL).mono ?_
    rintro e w1 ⟨rfl,hw⟩
    subst w1
    go_wp2_with fail
    go_roundg s
    case measure=>omega
    case rel=>exact ⟨s-1,by omega,by omega,by omega,by go_num,rfl,HD⟩
end R8
namespace Mth
def mk (f:Nat→Bool):Nat→Nat
 | 0=>0
 | n+1=>mk f n ||| ((f n).toNat <<< n)
theorem z5d (b:Bool) (n r:Nat):(b.toNat <<< n).testBit r=(b && decide (r=n)):=by
 rw [Nat.testBit_shiftLeft]
 cases b with
 | false=>simp
 | true =>
  by_cases h:r=n
  ·subst h;simp
  ·by_cases h2:n≤r
   ·obtain ⟨d,hd⟩:∃d,r-n=d+1:=⟨r-n-1,by omega⟩
    simp [h,h2,hd,Nat.testBit_succ]
   ·simp [h,h2]
theorem y3u (f:Nat→Bool) (n r:Nat):(mk f n).testBit r=(decide (r<n) && f r):=by
 induction n with
 | zero=>simp [mk]
 | succ n ih =>
  rw [mk,Nat.testBit_or,ih,z5d]
  by_cases h:r=n
  ·subst h;simp
  ·by_cases h2:r<n
   ·have:r<n+1:=by omega
    simp [h,h2,this]
   ·have:¬r<n+1:=by omega
    simp [h,h2,this]
theorem w6v (f:Nat→Bool) (n:Nat):mk f n<2^n:=by
 apply Nat.lt_pow_two_of_testBit
 intro i hi
 rw [y3u]
 have:¬i<n:=by omega
 simp [this]
def rk (high:Bool) (n i:Nat):Nat:=if high then n-1-i else i
theorem y5z {high:Bool} {n i:Nat} (h:i<n):rk high n i<n:=by unfold rk;split<;>omega
theorem w4x {high:Bool} {n i:Nat} (h:i<n):rk high n (rk high n i)=i:=by unfold rk;split<;>omega
def bitsOf (high:Bool) (v n:Nat):List Bool:=(List.range n).map fun i=>v.testBit (rk high n i)
theorem z0s (high:Bool) (v n:Nat):(bitsOf high v n).length=n:=by simp [bitsOf]
theorem x2k (high:Bool) (v n i:Nat) (h:i<n):(bitsOf high v n)[i]?=some (v.testBit (rk high n i)):=by
 simp [bitsOf,h]
theorem z4n (high:Bool) (v n k:Nat) (h:k<n) :
  (bitsOf high v n).take (k+1)=(bitsOf high v n).take k++[v.testBit (rk high n k)]:=by
 rw [List.take_add_one,x2k _ _ _ _ h];rfl
def z3u (high:Bool) (L:List Bool) (i:Nat):Nat:=mk (fun r=>L.getD (8*i+rk high 8 r) false) 8
theorem z2e (high:Bool) (L:List Bool) (i r:Nat) :
  (z3u high L i).testBit r=(decide (r<8) && L.getD (8*i+rk high 8 r) false):=y3u _ _ _
theorem z7n (high:Bool) (L:List Bool) (i:Nat):z3u high L i<256:=w6v _ 8
def pk (high:Bool) (m:Nat) (L:List Bool):List Nat:=(List.range m).map (z3u high L)
theorem z1h (high:Bool) (m:Nat) (L:List Bool):(pk high m L).length=m:=by simp [pk]
theorem z7z (high:Bool) (m:Nat) (L:List Bool) (i:Nat) (h:i<m):(pk high m L)[i]?=some (z3u high L i):=by simp [pk,h]
theorem z6o (L:List Bool) (b:Bool) (j:Nat) :
  (L++[b]).getD j false=if j=L.length then b else L.getD j false:=by
 simp only [List.getD_eq_getElem?_getD]
 by_cases h:j<L.length
 ·have:j≠L.length:=by omega
  simp [List.getElem?_append_left h,this]
 ·by_cases h2:j=L.length
  ·subst h2;simp
  ·have h3:L.length<j:=by omega
   rw [if_neg h2,List.getElem?_eq_none (l:=L) (i:=j) (by omega),List.getElem?_eq_none (by simp;omega)]
theorem z6s (high:Bool) (L:List Bool) (b:Bool) (i p:Nat) (hp:p<8) (h:L.length=8*i+p) :
  z3u high (L++[b]) i=z3u high L i ||| (b.toNat <<< rk high 8 p):=by
 apply Nat.eq_of_testBit_eq
 intro r
 rw [Nat.testBit_or,z2e,z2e,z5d,z6o]
 by_cases h8:r<8
 ·by_cases hr:r=rk high 8 p
  ·subst hr
   rw [w4x hp,if_pos (by omega)]
   rw [List.getD_eq_getElem?_getD,List.getElem?_eq_none (l:=L) (i:=8*i+p) (by omega)]
   simp [h8]
  ·have:8*i+rk high 8 r≠L.length:=by
    intro e
    apply hr
    have e2:rk high 8 r=p:=by omega
    rw [←e2,w4x h8]
   rw [if_neg this]
   simp [hr]
 ·have:r≠rk high 8 p:=by have:=y5z (high:=high) hp;omega
  simp [h8,this]
theorem z5i (high:Bool) (L:List Bool) (b:Bool) (i:Nat) (h:L.length<8*i∨8*i+8≤L.length) :
  z3u high (L++[b]) i=z3u high L i:=by
 apply Nat.eq_of_testBit_eq
 intro r
 rw [z2e,z2e,z6o]
 by_cases h8:r<8
 ·have:=y5z (high:=high) h8
  rw [if_neg (by omega)]
 ·simp [h8]
theorem y0o (high:Bool) (L:List Bool) (i:Nat) (h:L.length≤8*i):z3u high L i=0:=by
 apply Nat.eq_of_testBit_eq
 intro r
 rw [z2e]
 simp [List.getElem?_eq_none (l:=L) (i:=8*i+rk high 8 r) (by omega)]
theorem y3a (high:Bool) (L:List Bool) (m:Nat) (h:L.length≤8*m):pk high (m+1) L=pk high m L++[0]:=by
 simp [pk,List.range_succ,y0o high L m h]
theorem y5v (high:Bool) (L:List Bool) (b:Bool) (i p:Nat) (hp:p<8) (h:L.length=8*i+p) :
  pk high (i+1) (L++[b])=(pk high (i+1) L).set i (z3u high L i ||| (b.toNat <<< rk high 8 p)):=by
 apply List.ext_getElem?
 intro j
 by_cases hj:j<i+1
 ·by_cases e:j=i
  ·subst e
   rw [z7z _ _ _ _ hj,z6s high L b j p hp h,List.getElem?_set_self (by rw [z1h];exact hj)]
  ·rw [z7z _ _ _ _ hj,List.getElem?_set_ne (by omega),z7z _ _ _ _ hj,z5i high L b j (by omega)]
 ·rw [List.getElem?_eq_none (by rw [z1h];omega),List.getElem?_eq_none (by rw [List.length_set,z1h];omega)]
theorem y6g (v k:Nat):(v >>> k)%256%2=(v.testBit k).toNat:=by
 rw [Nat.mod_mod_of_dvd _ (by decide:2∣256)]
 rw [Nat.testBit_eq_decide_div_mod_eq,Nat.shiftRight_eq_div_pow]
 rcases Nat.mod_two_eq_zero_or_one (v/2^k) with h|h<;>simp [h]
def z4y (high:Bool) (zs:List Nat) (i:Nat):Bool:=(zs.getD (i/8) 0).testBit (rk high 8 (i%8))
theorem y8c (z k:Nat):(z >>> k)%2=(z.testBit k).toNat:=by
 rw [Nat.testBit_eq_decide_div_mod_eq,Nat.shiftRight_eq_div_pow]
 rcases Nat.mod_two_eq_zero_or_one (z/2^k) with h|h<;>simp [h]
end Mth
namespace R8
open Go.RowKit Infl Mth
def bi (b:Bool):Value:=.int .i64 (b.toNat:Int)
theorem z9k (b:Bool):wrap64 (b.toNat:Int)=(b.toNat:Int):=by
 have:=Bool.toNat_le b
 exact IntWalk.wrap64_in _ (by omega)
theorem x5c (v k:Nat) (hv:v<2^64):bits .and .u64 ((v:Int)/2^k) 1=((v.testBit k).toNat:Int):=by
 have hd:v/2^k<18446744073709551616:=Nat.lt_of_le_of_lt (Nat.div_le_self _ _) (by omega)
 rw [show ((v:Int)/2^k)=((v/2^k:Nat):Int) by simp]
 have h:=u64_and_nat (v/2^k) 1 hd (by decide)
 rw [Nat.and_one_is_mod,←Nat.shiftRight_eq_div_pow,y8c] at h
 rw [←Nat.shiftRight_eq_div_pow]
 exact h
theorem y8q (v N:Nat) (high:Bool) (w:World) (hv:v<2^64) (hN:N≤64) :
  Calls Tryz.prog 68 #[.int .u64 (v:Int),.int .i64 (N:Int),.bool high] w fun e w'=>∃lv,e=.returned lv∧w'.ownsRow w.heap.size 3 1 lv N ((bitsOf high v N).map bi)∧Below w.heap.size w w':=by
 obtain ⟨i0,hi,hz0,hz1,hz2⟩:=info_parts info3'
 cases high
 ·go_enter Tryz.func68,Tryz.ntmps68
  go_wp2
  go_loopg [7,8] N (fun gk o c ws=>∃i,gk=N-i∧i≤N∧c=.int .i64 (i:Int)∧ws.ownsRow w.heap.size 3 1 o i ((List.range i).map fun i=>bi (v.testBit (rk false N i)))∧Below w.heap.size w ws)
  case atStart=>exact ⟨0,by omega,by omega,rfl,World.ownsRow_nil _ _ _ _,Below.refl _ _⟩
  case round =>
   obtain ⟨i,rfl,hil,rfl,hown,hbel⟩:=hrel
   by_cases hlt:i<N
   ·have hbit:=x5c v i hv
    have hrk:rk false N i=i:=by simp [rk]
    have HO:=qz hown
    have HB:=qz hbel
    have hsz:=hbel.size
    have hltI:(i:Int)<(N:Int):=by omega
    rw [←hrk] at hbit
    have hwb:=z9k (v.testBit (rk false N i))
    have HN:Hid (∀ (j:Nat) u,[bi (v.testBit (rk false N i))][j]?=some u→(wr.alloc (.cells #[bi (v.testBit (rk false N i))] 3)).cell? ((⟨wr.heap.size,0,none⟩:Addr).add j)=some u):=qz (z4j _ _)
    rw [hrk] at hbit hwb HN
    have HRK:=qz hrk
    clear hown hbel hrk
    go_wp2_with (at_builtin;go_must (refine wpList_append_own _ rfl (.tmp 21) (.tmp 28) 45 rfl w.heap.size 3 i0 (.int .i64 0) 1 8 Tryz.underlying45 hi hz0 hz1 hz2 rfl (by decide) u7 i _ (by rfl) ((uh HO).alloc _) ⟨wr.heap.size,0,none⟩ 1 1 [bi (v.testBit i)] (by rfl) rfl (by exact uh HN) (by intro u hu;simp at hu;subst hu;rfl) (by unfold maxLen;omega) (by omega) (by simp;omega) ?_;intro v' w1 hown' hgrow _;have HO':=qz hown';have HG:=qz hgrow;clear hown' hgrow))
    go_roundg (N-(i+1))
    case measure=>omega
    case rel =>
     refine ⟨i+1,rfl,by omega,by go_num,?_,?_⟩
     ·rw [List.range_succ,List.map_append,List.map_singleton,uh HRK];exact uh HO'
     ·exact ((uh HB).alloc hsz _).grown (uh HG) (by simp;omega) (fun k e=>((uh HO).lt k e).1)
   ·obtain rfl:i=N:=by omega
    have HO:=qz hown
    have HB:=qz hbel
    clear hown hbel
    go_wp2
    go_ret
    exact ⟨_,rfl,by simpa [bitsOf,Function.comp_def] using uh HO,uh HB⟩
 ·go_enter Tryz.func68,Tryz.ntmps68
  go_wp2
  go_loopg [7,8] N (fun gk o c ws=>∃i,gk=N-i∧i≤N∧c=.int .i64 (i:Int)∧ws.ownsRow w.heap.size 3 1 o i ((List.range i).map fun i=>bi (v.testBit (rk true N i)))∧Below w.heap.size w ws)
  case atStart=>exact ⟨0,by omega,by omega,rfl,World.ownsRow_nil _ _ _ _,Below.refl _ _⟩
  case round =>
   obtain ⟨i,rfl,hil,rfl,hown,hbel⟩:=hrel
   by_cases hlt:i<N
   ·have hbit:=x5c v (N-1-i) hv
    have hrk:rk true N i=(N-1-i):=by simp [rk]
    have HO:=qz hown
    have HB:=qz hbel
    have hsz:=hbel.size
    have hltI:(i:Int)<(N:Int):=by omega
    rw [←hrk] at hbit
    have hwb:=z9k (v.testBit (rk true N i))
    have HN:Hid (∀ (j:Nat) u,[bi (v.testBit (rk true N i))][j]?=some u→(wr.alloc (.cells #[bi (v.testBit (rk true N i))] 3)).cell? ((⟨wr.heap.size,0,none⟩:Addr).add j)=some u):=qz (z4j _ _)
    rw [hrk] at hbit hwb HN
    have HRK:=qz hrk
    clear hown hbel hrk
    go_wp2_with (at_builtin;go_must (refine wpList_append_own _ rfl (.tmp 21) (.tmp 28) 45 rfl w.heap.size 3 i0 (.int .i64 0) 1 8 Tryz.underlying45 hi hz0 hz1 hz2 rfl (by decide) u7 i _ (by rfl) ((uh HO).alloc _) ⟨wr.heap.size,0,none⟩ 1 1 [bi (v.testBit (N-1-i))] (by rfl) rfl (by exact uh HN) (by intro u hu;simp at hu;subst hu;rfl) (by unfold maxLen;omega) (by omega) (by simp;omega) ?_;intro v' w1 hown' hgrow _;have HO':=qz hown';have HG:=qz hgrow;clear hown' hgrow))
    go_roundg (N-(i+1))
    case measure=>omega
    case rel =>
     refine ⟨i+1,rfl,by omega,by go_num,?_,?_⟩
     ·rw [List.range_succ,List.map_append,List.map_singleton,uh HRK];exact uh HO'
     ·exact ((uh HB).alloc hsz _).grown (uh HG) (by simp;omega) (fun k e=>((uh HO).lt k e).1)
   ·obtain rfl:i=N:=by omega
    have HO:=qz hown
    have HB:=qz hbel
    clear hown hbel
    go_wp2
    go_ret
    exact ⟨_,rfl,by simpa [bitsOf,Function.comp_def] using uh HO,uh HB⟩
end R8
namespace R8
open Go.RowKit Infl Mth
structure St (w0 w:World) (v:Value) (xs:List Value):Prop where
 own:w.ownsRow w0.heap.size 3 1 v xs.length xs
 bel:Below w0.heap.size w0 w
structure Kp (w w':World) (va v':Value):Prop where
 size:w.heap.size≤w'.heap.size
 block:∀k,k<w.heap.size→va.ownBlock≠some k→w'.heap[k]?=w.heap[k]?
 lies:∀b,v'.ownBlock=some b→va.ownBlock=some b∨b=w.heap.size
theorem St.nil (w:World):St w w (.slice none 0 0) []:=⟨World.ownsRow_nil _ _ _ _,Below.refl _ _⟩
theorem St.later {w0 w w1:World} {v:Value} {xs:List Value} (h:St w0 w v xs) (hb:Below w.heap.size w w1):St w0 w1 v xs :=
 ⟨z0y h.own fun g e=>hb.block g (h.own.lt g e).2,h.bel.trans (hb.mono h.bel.size)⟩
theorem St.alloc {w0 w:World} {v:Value} {xs:List Value} (h:St w0 w v xs) (o:Obj):St w0 (w.alloc o) v xs :=
 ⟨h.own.alloc _,h.bel.alloc h.bel.size _⟩
theorem z2p (L:List Bool):∀u∈L.map bi,u.oneCell'=true:=by
 intro u hu
 obtain ⟨b,_,rfl⟩:=List.mem_map.1 hu
 rfl
theorem z1y {ops:Array Oper} {rest:List Oper} {o:Oper} {a:Act} {Q:Exit→Act→World→Prop} {w w0:World} (hgd:o.guard=none) (s x:Operand)
  (ho:o.op=.call { callee:=.builtin .append,args:=#[s,x],argTypes:=#[45,45] }) (va vb:Value) (xs ys:List Value) (base':Nat) (hs:a.eval s=va) (hx:a.eval x=vb)
  (hA:St w0 w va xs) (hB:w.ownsRow base' 3 1 vb ys.length ys) (h1:∀u∈ys,u.oneCell'=true) (hlen:(xs.length+ys.length)*8≤140737488355328)
  (h:∀v' w',St w0 w' v' (xs++ys)→Kp w w' va v'→wpList Tryz.prog ops Q rest (a.put o.dst v') w'):wpList Tryz.prog ops Q (o :: rest) a w:=by
 obtain ⟨i0,hi,hz0,hz1,hz2⟩:=info_parts info3'
 rcases hB.2 with ⟨e1,e2⟩|⟨g,cap,cur,e1,hb,hg,hn,hc,hs',ht⟩
 ·have e3:ys=[]:=List.length_eq_zero_iff.1 e2
  subst e3
  refine wpList_append_own_none hgd s x 45 ho w0.heap.size 3 i0 1 Tryz.underlying45 hi va xs.length xs hs hA.own (by rw [hx,e1]) ?_
  refine h va w (by rw [List.append_nil];exact hA) ⟨Nat.le_refl _,fun _ _ _=>rfl,fun b e=>.inl e⟩
 ·refine wpList_append_own_at w hgd s x 45 ho w0.heap.size 3 i0 (.int .i64 0) 1 8 Tryz.underlying45 hi hz0 hz1 hz2 rfl (by decide) va xs.length xs hs hA.own ⟨g,0,none⟩ ys.length cap ys (by rw [hx,e1]) (by omega) (hB.cells (by rw [e1];rfl)) h1 (by unfold maxLen;omega) hlen hA.bel.size ?_
  intro v' w' h2 h3 _ h5
  refine h v' w' ⟨by rw [List.length_append];exact h2,hA.bel.grown h3 hA.bel.size (fun k e=>(hA.own.lt k e).1)⟩ ⟨h3.size,fun k hk hne=>h3.block k hk (fun e=>hne e.symm),fun b e=>?_⟩
  rcases h5 with h5|h5
  ·exact .inl (by rw [←h5,e])
  ·rw [e] at h5;exact .inr (Option.some.inj h5)
theorem z4g (v n:Nat) (w:World) (hv:v<2^63) (hn:n≤64) :
  Calls Tryz.prog 35 #[.int .i64 (v:Int),.int .i64 (n:Int)] w fun e w'=>∃lv,e=.returned lv∧St w w' lv ((bitsOf false v n).map bi):=by
 go_enter Tryz.func35,Tryz.ntmps35
 have hm:(v:Int)%18446744073709551616=(v:Int):=by omega
 go_wp2_with (go_at_call 68;go_must (refine (y8q v n false w (by omega) hn).mono ?_;rintro e w' ⟨lv,rfl,hown,hbel⟩;have HO:=qz hown;have HB:=qz hbel;clear hown hbel))
 go_ret
 exact ⟨lv,rfl,by rw [List.length_map,z0s];exact uh HO,uh HB⟩
end R8
namespace R8
open Go.RowKit Mth Infl
theorem y5r (w:World):Calls Tryz.prog 45 #[] w fun e w'=>e=.returned (.slice (some ⟨w.heap.size,0,none⟩) 19 19)∧w'=w.alloc (.cells (order.map (fun z:Nat=>iv (z:Int))).toArray 3):=by
 go_enter Tryz.func45,Tryz.ntmps45
 go_wp2_with fail
 go_ret
 exact ⟨rfl,rfl⟩
def fx (i:Nat):Nat:=if 144≤i∧i<256 then 9 else if 256≤i∧i<280 then 7 else 8
theorem y5b (w:World):Calls Tryz.prog 38 #[] w fun e w'=>∃lv,e=.returned lv∧w'.ownsRow w.heap.size 3 1 lv 288 ((List.range 288).map fun i=>iv (fx i:Int))∧Below w.heap.size w w':=by
 obtain ⟨i0,hi,hz0,hz1,hz2⟩:=info_parts info3'
 go_enter Tryz.func38,Tryz.ntmps38
 go_wp2_with fail
 go_loopg [1,2] 288 (fun gk o c ws=>∃i,gk=288-i∧i≤288∧c=.int .i64 (i:Int)∧ws.ownsRow w.heap.size 3 1 o i ((List.range i).map fun i=>iv (fx i:Int))∧Below w.heap.size w ws)
 case atStart=>exact ⟨0,by omega,by omega,rfl,World.ownsRow_nil _ _ _ _,Below.refl _ _⟩
 case round =>
  obtain ⟨i,rfl,hil,rfl,hown,hbel⟩:=hrel
  have HO:=qz hown
  have HB:=qz hbel
  by_cases hlt:i<288
  ·have hii:(i:Int)<288:=by omega
   have hsz:=hbel.size
   clear hown hbel
   by_cases a1:i<144
   ·have HFX:Hid (fx i=8):=qz (by unfold fx;rw [if_neg (by omega),if_neg (by omega)])
    have b1:¬ (144:Int)≤(i:Int):=by omega
    have b1d:decide ((144:Int)≤(i:Int))=false:=by simp;omega
    have b3:¬ (256:Int)≤(i:Int):=by omega
    have b3d:decide ((256:Int)≤(i:Int))=false:=by simp;omega
    have HN:Hid (∀ (j:Nat) u,[iv 8][j]?=some u→(wr.alloc (.cells #[iv 8] 3)).cell? ((⟨wr.heap.size,0,none⟩:Addr).add j)=some u):=qz (z4j _ _)
    go_wp2_with (at_builtin;go_must (refine wpList_append_own _ rfl (.tmp 20) (.tmp 22) 45 rfl w.heap.size 3 i0 (.int .i64 0) 1 8 Tryz.underlying45 hi hz0 hz1 hz2 rfl (by decide) u1 i _ (by rfl) ((uh HO).alloc _) ⟨wr.heap.size,0,none⟩ 1 1 [iv 8] (by rfl) rfl (by exact uh HN) (by intro u hu;simp at hu;subst hu;rfl) (by unfold maxLen;omega) (by omega) (by simp;omega) ?_;intro v' w1 hown' hgrow _;have HO':=qz hown';have HG:=qz hgrow;clear hown' hgrow))
    go_roundg (288-(i+1))
    case measure=>omega
    case rel =>
     refine ⟨i+1,rfl,by omega,by go_num,?_,?_⟩
     ·rw [List.range_succ,List.map_append,List.map_singleton,uh HFX];exact uh HO'
     ·exact ((uh HB).alloc hsz _).grown (uh HG) (by simp;omega) (fun k e=>((uh HO).lt k e).1)
   ·by_cases a2:i<256
    ·have HFX:Hid (fx i=9):=qz (by unfold fx;rw [if_pos (by omega)])
     have b1:(144:Int)≤(i:Int):=by omega
     have b1d:decide ((144:Int)≤(i:Int))=true:=by simp;omega
     have b2:(i:Int)<256:=by omega
     have b2d:decide ((i:Int)<256)=true:=by simp;omega
     have b3:¬ (256:Int)≤(i:Int):=by omega
     have b3d:decide ((256:Int)≤(i:Int))=false:=by simp;omega
     have HN:Hid (∀ (j:Nat) u,[iv 9][j]?=some u→(wr.alloc (.cells #[iv 9] 3)).cell? ((⟨wr.heap.size,0,none⟩:Addr).add j)=some u):=qz (z4j _ _)
     go_wp2_with (at_builtin;go_must (refine wpList_append_own _ rfl (.tmp 20) (.tmp 22) 45 rfl w.heap.size 3 i0 (.int .i64 0) 1 8 Tryz.underlying45 hi hz0 hz1 hz2 rfl (by decide) u1 i _ (by rfl) ((uh HO).alloc _) ⟨wr.heap.size,0,none⟩ 1 1 [iv 9] (by rfl) rfl (by exact uh HN) (by intro u hu;simp at hu;subst hu;rfl) (by unfold maxLen;omega) (by omega) (by simp;omega) ?_;intro v' w1 hown' hgrow _;have HO':=qz hown';have HG:=qz hgrow;clear hown' hgrow))
     go_roundg (288-(i+1))
     case measure=>omega
     case rel =>
      refine ⟨i+1,rfl,by omega,by go_num,?_,?_⟩
      ·rw [List.range_succ,List.map_append,List.map_singleton,uh HFX];exact uh HO'
      ·exact ((uh HB).alloc hsz _).grown (uh HG) (by simp;omega) (fun k e=>((uh HO).lt k e).1)
    ·by_cases a3:i<280
     ·have HFX:Hid (fx i=7):=qz (by unfold fx;rw [if_neg (by omega),if_pos (by omega)])
      have b1:(144:Int)≤(i:Int):=by omega
      have b1d:decide ((144:Int)≤(i:Int))=true:=by simp;omega
      have b2:¬ (i:Int)<256:=by omega
      have b2d:decide ((i:Int)<256)=false:=by simp;omega
      have b3:(256:Int)≤(i:Int):=by omega
      have b3d:decide ((256:Int)≤(i:Int))=true:=by simp;omega
      have b4:(i:Int)<280:=by omega
      have b4d:decide ((i:Int)<280)=true:=by simp;omega
      have HN:Hid (∀ (j:Nat) u,[iv 7][j]?=some u→(wr.alloc (.cells #[iv 7] 3)).cell? ((⟨wr.heap.size,0,none⟩:Addr).add j)=some u):=qz (z4j _ _)
      go_wp2_with (at_builtin;go_must (refine wpList_append_own _ rfl (.tmp 20) (.tmp 22) 45 rfl w.heap.size 3 i0 (.int .i64 0) 1 8 Tryz.underlying45 hi hz0 hz1 hz2 rfl (by decide) u1 i _ (by rfl) ((uh HO).alloc _) ⟨wr.heap.size,0,none⟩ 1 1 [iv 7] (by rfl) rfl (by exact uh HN) (by intro u hu;simp at hu;subst hu;rfl) (by unfold maxLen;omega) (by omega) (by simp;omega) ?_;intro v' w1 hown' hgrow _;have HO':=qz hown';have HG:=qz hgrow;clear hown' hgrow))
      go_roundg (288-(i+1))
      case measure=>omega
      case rel =>
       refine ⟨i+1,rfl,by omega,by go_num,?_,?_⟩
       ·rw [List.range_succ,List.map_append,List.map_singleton,uh HFX];exact uh HO'
       ·exact ((uh HB).alloc hsz _).grown (uh HG) (by simp;omega) (fun k e=>((uh HO).lt k e).1)
     ·have HFX:Hid (fx i=8):=qz (by unfold fx;rw [if_neg (by omega),if_neg (by omega)])
      have b1:(144:Int)≤(i:Int):=by omega
      have b1d:decide ((144:Int)≤(i:Int))=true:=by simp;omega
      have b2:¬ (i:Int)<256:=by omega
      have b2d:decide ((i:Int)<256)=false:=by simp;omega
      have b3:(256:Int)≤(i:Int):=by omega
      have b3d:decide ((256:Int)≤(i:Int))=true:=by simp;omega
      have b4:¬ (i:Int)<280:=by omega
      have b4d:decide ((i:Int)<280)=false:=by simp;omega
      have HN:Hid (∀ (j:Nat) u,[iv 8][j]?=some u→(wr.alloc (.cells #[iv 8] 3)).cell? ((⟨wr.heap.size,0,none⟩:Addr).add j)=some u):=qz (z4j _ _)
      go_wp2_with (at_builtin;go_must (refine wpList_append_own _ rfl (.tmp 20) (.tmp 22) 45 rfl w.heap.size 3 i0 (.int .i64 0) 1 8 Tryz.underlying45 hi hz0 hz1 hz2 rfl (by decide) u1 i _ (by rfl) ((uh HO).alloc _) ⟨wr.heap.size,0,none⟩ 1 1 [iv 8] (by rfl) rfl (by exact uh HN) (by intro u hu;simp at hu;subst hu;rfl) (by unfold maxLen;omega) (by omega) (by simp;omega) ?_;intro v' w1 hown' hgrow _;have HO':=qz hown';have HG:=qz hgrow;clear hown' hgrow))
      go_roundg (288-(i+1))
      case measure=>omega
      case rel =>
       refine ⟨i+1,rfl,by omega,by go_num,?_,?_⟩
       ·rw [List.range_succ,List.map_append,List.map_singleton,uh HFX];exact uh HO'
       ·exact ((uh HB).alloc hsz _).grown (uh HG) (by simp;omega) (fun k e=>((uh HO).lt k e).1)
  ·obtain rfl:i=288:=by omega
   clear hown hbel
   go_wp2_with fail
   go_ret
   exact ⟨_,rfl,uh HO,uh HB⟩
end R8
namespace Canon
def cn (ls:List Nat) (l:Nat):Nat:=if l=0 then 0 else ls.count l
def fst (ls:List Nat):Nat→Nat
 | 0=>0
 | l+1=>(fst ls l+cn ls l)*2
def kr (ls:List Nat):Nat→Nat
 | 0=>0
 | l+1=>kr ls l+cn ls l*2^(20-l)
theorem y7a (ls:List Nat):∀l,l≤20→fst ls l*2^(20-l)=kr ls l
 | 0,_=>by simp [fst,kr]
 | l+1,h=>by
  rw [fst,kr,←y7a ls l (by omega),←Nat.add_mul,Nat.mul_assoc,show 20-l=(20-(l+1))+1 by omega,Nat.pow_succ,Nat.mul_comm (2^(20-(l+1))) 2]
theorem y5l (ls:List Nat) {l m:Nat} (h:l≤m):kr ls l≤kr ls m:=by
 induction m with
 | zero=>obtain rfl:l=0:=by omega
         exact Nat.le_refl _
 | succ m ih =>
  by_cases e:l=m+1
  ·subst e;exact Nat.le_refl _
  ·rw [kr]
   have:=ih (by omega)
   omega
def ln (ls:List Nat) (i:Nat):Nat:=ls.getD i 0
def rk (ls:List Nat) (i:Nat):Nat:=(ls.take i).count (ln ls i)
def wd (ls:List Nat) (i:Nat):Nat:=fst ls (ln ls i)+rk ls i
def lo (ls:List Nat) (i:Nat):Nat:=wd ls i*2^(20-ln ls i)
def Has (ls:List Nat) (i:Nat):Prop:=i<ls.length∧0<ln ls i∧ln ls i≤20
theorem z2z (ls:List Nat) (i l:Nat) (h:i<ls.length):(ls.take (i+1)).count l=(ls.take i).count l+(if ln ls i=l then 1 else 0):=by
 rw [List.take_succ_eq_append_getElem h,List.count_append]
 have:ln ls i=ls[i]:=by simp [ln,h]
 rw [this,List.count_singleton]
 by_cases e:ls[i]=l<;>simp [e]
theorem z4p (ls:List Nat) (l:Nat) {i j:Nat} (h:i≤j):(ls.take i).count l≤(ls.take j).count l:=by
 have:ls.take i=(ls.take j).take i:=by rw [List.take_take,Nat.min_eq_left h]
 rw [this]
 exact (List.take_sublist _ _).count_le _
theorem y5z {ls:List Nat} {i:Nat} (h:Has ls i):rk ls i<cn ls (ln ls i):=by
 obtain ⟨h1,h2,_⟩:=h
 rw [cn,if_neg (by omega)]
 have e:=z2z ls i (ln ls i) h1
 rw [if_pos rfl] at e
 have:=z4p ls (ln ls i) (show i+1≤ls.length by omega)
 rw [List.take_length] at this
 rw [rk]
 omega
theorem w1g {ls:List Nat} {i:Nat} (h:Has ls i):lo ls i=kr ls (ln ls i)+rk ls i*2^(20-ln ls i):=by
 rw [lo,wd,Nat.add_mul,y7a ls _ h.2.2]
theorem hi_le {ls:List Nat} {i:Nat} (h:Has ls i):lo ls i+2^(20-ln ls i)≤kr ls (ln ls i+1):=by
 rw [w1g h,kr]
 have:=y5z h
 have h2:(rk ls i+1)*2^(20-ln ls i)≤cn ls (ln ls i)*2^(20-ln ls i):=Nat.mul_le_mul_right _ this
 rw [Nat.add_mul,Nat.one_mul] at h2
 omega
theorem apart {ls:List Nat} {i j:Nat} (hi:Has ls i) (hj:Has ls j) (h:ln ls i<ln ls j∨ln ls i=ln ls j∧i<j):lo ls i+2^(20-ln ls i)≤lo ls j:=by
 rcases h with h|⟨h,hij⟩
 ·have h1:=hi_le hi
  have h2:=y5l ls (show ln ls i+1≤ln ls j by omega)
  rw [w1g hj]
  omega
 ·rw [w1g hi,w1g hj,h]
  have e:=z2z ls i (ln ls i) hi.1
  rw [if_pos rfl] at e
  have h1:rk ls i+1≤rk ls j:=by
   have:=z4p ls (ln ls i) (show i+1≤j by omega)
   rw [rk,rk,←h]
   omega
  have h2:(rk ls i+1)*2^(20-ln ls j)≤rk ls j*2^(20-ln ls j):=Nat.mul_le_mul_right _ h1
  rw [Nat.add_mul,Nat.one_mul] at h2
  omega
theorem sole {ls:List Nat} {i j x:Nat} (hi:Has ls i) (hj:Has ls j) (h1:lo ls i≤x∧x<lo ls i+2^(20-ln ls i)) (h2:lo ls j≤x∧x<lo ls j+2^(20-ln ls j)):i=j:=by
 rcases Nat.lt_trichotomy (ln ls i) (ln ls j) with h|h|h
 ·have:=apart hi hj (.inl h);omega
 ·rcases Nat.lt_trichotomy i j with e|e|e
  ·have:=apart hi hj (.inr ⟨h,e⟩);omega
  ·exact e
  ·have:=apart hj hi (.inr ⟨h.symm,e⟩);omega
 ·have:=apart hj hi (.inl h);omega
theorem x6s (ls:List Nat) (x:Nat):∀m,m≤21→kr (ls++[x]) m=kr ls m+(if 0<x∧x<m then 2^(20-x) else 0)
 | 0,_=>by simp [kr]
 | m+1,h=>by
  rw [kr,kr,x6s ls x m (by omega)]
  have hc:cn (ls++[x]) m=cn ls m+(if 0<m∧x=m then 1 else 0):=by
   unfold cn
   by_cases h0:m=0
   ·simp [h0]
   ·rw [if_neg h0,if_neg h0,List.count_append,List.count_singleton]
    by_cases e:x=m
    ·simp [e];omega
    ·simp [e]
  rw [hc,Nat.add_mul]
  by_cases e:x=m
  ·subst e
   by_cases h0:0<x
   ·rw [if_neg (by omega),if_pos ⟨h0,rfl⟩,if_pos ⟨h0,by omega⟩];omega
   ·rw [if_neg (by omega),if_neg (by omega),if_neg (by omega)];omega
  ·rw [if_neg (show ¬ (0<m∧x=m) by omega)]
   by_cases h1:0<x∧x<m
   ·rw [if_pos h1,if_pos (by omega)];omega
   ·rw [if_neg h1,if_neg (by omega)];omega
def sum (ls:List Nat):Nat:=kr ls 21
theorem sum_nil:sum []=0:=by simp [sum,kr,cn]
theorem z9a (ls:List Nat) (x:Nat) (h:x≤20):sum (ls++[x])=sum ls+(if 0<x then 2^(20-x) else 0):=by
 rw [sum,x6s ls x 21 (by omega),sum]
 by_cases h0:0<x
 ·rw [if_pos ⟨h0,by omega⟩,if_pos h0]
 ·rw [if_neg (by omega),if_neg h0]
theorem y8i {ls:List Nat} {i:Nat} (h:Has ls i) (hs:sum ls≤1048576):wd ls i<2^ln ls i:=by
 have h1:=hi_le h
 have h2:=y5l ls (show ln ls i+1≤21 by have:=h.2.2;omega)
 have h3:(wd ls i+1)*2^(20-ln ls i)≤2^ln ls i*2^(20-ln ls i):=by
  rw [←Nat.pow_add,show ln ls i+(20-ln ls i)=20 by have:=h.2.2;omega,Nat.add_mul,Nat.one_mul]
  show lo ls i+_≤1048576
  unfold sum at hs
  omega
 exact Nat.le_of_mul_le_mul_right h3 (Nat.two_pow_pos _)
/-! ### Beginnings -/
theorem x2i {n l v b:Nat} (hl:l≤n) (hn:n≤20):v/2^(n-l)=b↔b*2^(20-l)≤v*2^(20-n)∧v*2^(20-n)<b*2^(20-l)+2^(20-l):=by
 have e:20-l=(n-l)+(20-n):=by omega
 have hp:0<2^(n-l):=Nat.two_pow_pos _
 have hq:0<2^(20-n):=Nat.two_pow_pos _
 rw [e,Nat.pow_add,←Nat.mul_assoc]
 have e2:b*2^(n-l)*2^(20-n)+2^(n-l)*2^(20-n)=(b*2^(n-l)+2^(n-l))*2^(20-n):=by rw [Nat.add_mul]
 rw [e2,Nat.mul_le_mul_right_iff hq,Nat.mul_lt_mul_right hq]
 constructor
 ·intro h
  have hd:=Nat.div_add_mod v (2^(n-l))
  have hr:=Nat.mod_lt v hp
  rw [h,Nat.mul_comm] at hd
  omega
 ·rintro ⟨h1,h2⟩
  refine Nat.div_eq_of_lt_le h1 ?_
  rw [Nat.add_mul,Nat.one_mul]
  exact h2
theorem free {ls:List Nat} {i j:Nat} (hi:Has ls i) (hj:Has ls j) (hl:ln ls i≤ln ls j) (h:wd ls j/2^(ln ls j-ln ls i)=wd ls i):i=j:=by
 have h2:=(x2i hl hj.2.2).1 h
 have hp:0<2^(20-ln ls j):=Nat.two_pow_pos _
 exact sole hi hj (x:=lo ls j) ⟨h2.1,h2.2⟩ ⟨Nat.le_refl _,by omega⟩
end Canon
section
open Go.RowKit
def z0w (w:World) (v:Value) (zs:List Int):Prop :=
 ∃a cap,v=.slice a zs.length cap∧(0<zs.length→∃b off,a=some ⟨b,off,none⟩∧∀j,j<zs.length→w.cell? ⟨b,off+j,none⟩=some (.int .i64 (zs.getD j 0)))
theorem z0w.stays {w w1:World} (hb:Below w.heap.size w w1) {v:Value} {zs:List Int} (h:z0w w v zs):z0w w1 v zs:=by
 obtain ⟨a,cap,rfl,hs⟩:=h
 refine ⟨a,cap,rfl,fun h0=>?_⟩
 obtain ⟨b,off,rfl,h2⟩:=hs h0
 exact ⟨b,off,rfl,fun j hj=>z0a hb (h2 j hj)⟩
def z2n (n:Nat) (W L:Nat→Nat):Array Value:=((List.range (2*n)).map fun k=>if k%2=0 then Value.int .u32 (W (k/2):Int) else Value.int .i64 (L (k/2):Int)).toArray
theorem y0u {n:Nat} {W W' L L':Nat→Nat} (h1:∀i,i<n→W i=W' i) (h2:∀i,i<n→L i=L' i):z2n n W L=z2n n W' L':=by
 unfold z2n
 congr 1
 refine List.map_congr_left fun k hk=>?_
 simp at hk
 rw [h1 (k/2) (by omega),h2 (k/2) (by omega)]
def z0f (w:World) (t:TypeId) (g n:Nat) (W L:Nat→Nat):Prop:=w.heap[g]?=some (.cells (z2n n W L) t (0,0))
theorem z0f.word {w:World} {t:TypeId} {g n:Nat} {W L:Nat→Nat} (h:z0f w t g n W L) (i:Nat) (hi:i<n):w.cell? ⟨g,i*2,none⟩=some (.int .u32 (W i:Int)):=by
 simp only [World.cell?,show w.heap[g]?=_ from h]
 simp only [z2n,List.getElem?_toArray,List.getElem?_map]
 rw [List.getElem?_range (show i*2<2*n by omega)]
 simp
theorem z0f.len {w:World} {t:TypeId} {g n:Nat} {W L:Nat→Nat} (h:z0f w t g n W L) (i:Nat) (hi:i<n):w.cell? ⟨g,i*2+1,none⟩=some (.int .i64 (L i:Int)):=by
 simp only [World.cell?,show w.heap[g]?=_ from h]
 simp only [z2n,List.getElem?_toArray,List.getElem?_map]
 rw [List.getElem?_range (show i*2+1<2*n by omega)]
 simp [show (i*2+1)%2=1 by omega,show (i*2+1)/2=i by omega]
theorem z0f.free {w:World} {t:TypeId} {g n:Nat} {W L:Nat→Nat} (h:z0f w t g n W L) (k:Nat):w.frozen? ⟨g,k,none⟩=false:=by
 simp [World.frozen?,show w.heap[g]?=_ from h]
def upd (T:Nat→Nat) (j y:Nat):Nat→Nat:=fun i=>if i=j then y else T i
theorem z0f.set {w:World} {t:TypeId} {g n:Nat} {W L:Nat→Nat} (h:z0f w t g n W L) (i x y:Nat) :
  z0f ((w.setCell ⟨g,i*2,none⟩ (.int .u32 (x:Int))).setCell ⟨g,i*2+1,none⟩ (.int .i64 (y:Int))) t g n (upd W i x) (upd L i y):=by
 have h1:=heap_setCell_same w g (i*2) _ t (.int .u32 (x:Int)) h
 have h2:=heap_setCell_same _ g (i*2+1) _ t (.int .i64 (y:Int)) h1
 unfold z0f
 rw [h2]
 congr 2
 apply Array.ext (by simp [z2n])
 intro k k1 k2
 have hk:k<2*n:=by simpa [z2n] using k2
 rw [Array.getElem_setIfInBounds (by simpa [z2n] using hk),Array.getElem_setIfInBounds (by simpa [z2n] using hk)]
 simp only [z2n,upd,List.getElem_toArray,List.getElem_map,List.getElem_range]
 by_cases e1:i*2+1=k
 ·subst e1
  simp [show (i*2+1)%2=1 by omega,show (i*2+1)/2=i by omega]
 ·by_cases e2:i*2=k
  ·subst e2
   simp
  ·rw [if_neg e1,if_neg e2]
   by_cases e3:k%2=0
   ·rw [if_pos e3,if_pos e3,if_neg (by omega)]
   ·rw [if_neg e3,if_neg e3,if_neg (by omega)]
theorem z0f.stays {w w':World} {t:TypeId} {g n B:Nat} {W L:Nat→Nat} (h:z0f w t g n W L) (hb:Below B w w') (hg:g<B):z0f w' t g n W L:=by
 unfold z0f
 rw [hb.block g hg]
 exact h
theorem w5w:(Tryz.prog.info? 130).map (fun i=>(i.zero,i.size,i.bytes))=some (some (.agg #[.int .u32 0,.int .i64 0]),2,16):=by kernel_rfl
theorem x4h (w:World) (n:Nat) (hn:n≤65536):(Instr.makeSlice 80 (.int .i64 (n:Int)) (.int .i64 (n:Int))).run Tryz.prog w=.ok (.slice (some ⟨w.heap.size,0,none⟩) n n) (w.alloc (.cells (z2n n (fun _=>0) (fun _=>0)) 130)):=by
 obtain ⟨i0,hi,hz0,hz1,hz2⟩:=info_parts w5w
 have:=run_make (P:=Tryz.prog) w 80 130 i0 (.agg #[.int .u32 0,.int .i64 0]) Tryz.underlying80 hi hz0 .i64 .i64 (n:Int) (n:Int) (by omega) (by omega) (by rw [hz2];omega) (by omega)
 rw [hz1] at this
 rw [this]
 congr 3
 apply Array.ext (by simp [madeCells,z2n];omega)
 intro k k1 k2
 have hk:k<2*n:=by simpa [z2n] using k2
 simp only [z2n,madeCells,List.getElem_toArray,List.getElem_map,List.getElem_range,Array.getElem_map,Array.getElem_range]
 by_cases e:k%2=0
 ·simp [Value.cells,e]
 ·have e1:k%2=1:=by omega
  simp [Value.cells,e1]
theorem w5z:(Tryz.prog.info? 188).map (fun i=>(i.zero,i.size,i.bytes))=some (some (.agg #[.int .u32 0,.int .i64 0]),2,16):=by kernel_rfl
theorem y9r (w:World) (n:Nat) (hn:n≤65536):(Instr.makeSlice 150 (.int .i64 (n:Int)) (.int .i64 (n:Int))).run Tryz.prog w=.ok (.slice (some ⟨w.heap.size,0,none⟩) n n) (w.alloc (.cells (z2n n (fun _=>0) (fun _=>0)) 188)):=by
 obtain ⟨i0,hi,hz0,hz1,hz2⟩:=info_parts w5z
 have:=run_make (P:=Tryz.prog) w 150 188 i0 (.agg #[.int .u32 0,.int .i64 0]) Tryz.underlying150 hi hz0 .i64 .i64 (n:Int) (n:Int) (by omega) (by omega) (by rw [hz2];omega) (by omega)
 rw [hz1] at this
 rw [this]
 congr 3
 apply Array.ext (by simp [madeCells,z2n];omega)
 intro k k1 k2
 have hk:k<2*n:=by simpa [z2n] using k2
 simp only [z2n,madeCells,List.getElem_toArray,List.getElem_map,List.getElem_range,Array.getElem_map,Array.getElem_range]
 by_cases e:k%2=0
 ·simp [Value.cells,e]
 ·have e1:k%2=1:=by omega
  simp [Value.cells,e1]
/-! ### Which lengths are good -/
def z2x (n:Nat) (most:Int):Prop:=1≤most∧most≤20∧1≤n∧n≤65536
def z2v (most z:Int):Prop:=0≤z∧z≤most
def nat (zs:List Int):List Nat:=zs.map Int.toNat
def words (ls:List Nat):Nat:=(ls.filter (fun l=>decide (0<l))).length
def z2s (ls:List Nat) (loose:Bool):Prop:=Canon.sum ls=1048576∨loose=true∧(words ls=0∨words ls=1∧ls.count 1=1)
end
section
open Go.RowKit
def wdz (ls:List Nat) (i:Nat):Nat:=if Canon.ln ls i=0 then 0 else Canon.wd ls i
theorem w64 {x:Int} (h0:0≤x) (h1:x<4611686018427387904):wrap64 x=x:=by unfold wrap64;omega
theorem z6v {l:Nat} (h:0<l):2^(20-l)≤524288:=by
 have h19:(2:Nat)^(20-l)≤2^19:=Nat.pow_le_pow_right (by omega) (by omega)
 simpa using h19
theorem y4f (ls:List Nat) (x:Nat):words (ls++[x])=words ls+(if 0<x then 1 else 0):=by
 unfold words
 rw [List.filter_append,List.length_append]
 by_cases h:0<x<;>simp [h]
theorem x2s (ls:List Nat) (x:Nat):(ls++[x]).count 1=ls.count 1+(if x=1 then 1 else 0):=by
 rw [List.count_append,List.count_singleton]
 by_cases h:x=1<;>simp [h]
theorem w1l (zs:List Int) (i:Nat) (h:i<zs.length):(nat zs).take (i+1)=(nat zs).take i++[(zs.getD i 0).toNat]:=by
 have h':i<(nat zs).length:=by simpa [nat] using h
 rw [List.take_succ_eq_append_getElem h']
 simp [nat,h]
theorem y2q (ls:List Nat) (h:∀l∈ls,l≤20):∀k,k≤ls.length→Canon.sum (ls.take k)≤words (ls.take k)*524288
 | 0,_=>by simp [Canon.sum_nil]
 | k+1,hk=>by
  have ih:=y2q ls h k (by omega)
  rw [List.take_succ_eq_append_getElem (by omega),Canon.z9a _ _ (h _ (List.getElem_mem _)),y4f]
  by_cases h0:0<ls[k]
  ·rw [if_pos h0,if_pos h0]
   have:=z6v h0
   generalize 2^(20-ls[k])=P at this
   omega
  ·rw [if_neg h0,if_neg h0];omega
theorem z2s.le {ls:List Nat} {loose:Bool} (h:∀l∈ls,l≤20) (ho:z2s ls loose):Canon.sum ls≤1048576:=by
 rcases ho with e|⟨_,e⟩
 ·omega
 ·have:=y2q ls h ls.length (Nat.le_refl _)
  rw [List.take_length] at this
  rcases e with e|⟨e,_⟩<;>rw [e] at this<;>omega
theorem x0x {ls:List Nat} (hs:Canon.sum ls≤1048576) (l:Nat) (hl:l≤20):Canon.fst ls l+Canon.cn ls l≤1048576:=by
 have h1:=Canon.y7a ls l hl
 have h2:=Canon.y5l ls (show l+1≤21 by omega)
 rw [Canon.kr,←h1,←Nat.add_mul] at h2
 have hp:0<2^(20-l):=Nat.two_pow_pos _
 have h3:Canon.fst ls l+Canon.cn ls l≤(Canon.fst ls l+Canon.cn ls l)*2^(20-l):=Nat.le_mul_of_pos_right _ hp
 unfold Canon.sum at hs
 omega
theorem ne_c {a l z i':Nat} (he:a=l) (q1:1≤l) (ei:i'=z+1) (h1:a=0∨l<a∨a=l∧i'≤z):False:=by omega
theorem lt_b {z i i':Nat} (ei:i'=i+1) (hz:z<i') (e:¬z=i):z<i:=by omega
theorem or_d {a l z i i':Nat} (ei:i'=i+1) (h1:a=0∨l<a∨a=l∧i'≤z):a=0∨l<a∨a=l∧i≤z:=by omega
end
namespace R8
open Go.RowKit
def y2a (zs:List Int) (most:Int) (loose:Bool) (w:World) (e:Ending) (w':World):Prop :=
 (¬ (z2x zs.length most∧∀z∈zs,z2v most z)→e=.returned (.tuple #[.slice none 0 0,.int .i64 2])) ∧
 ((z2x zs.length most∧∀z∈zs,z2v most z)→¬z2s (nat zs) loose→e=.returned (.tuple #[.slice none 0 0,.int .i64 13])) ∧
 ((z2x zs.length most∧∀z∈zs,z2v most z)→z2s (nat zs) loose→∃g,w.heap.size≤g∧e=.returned (.tuple #[.slice (some ⟨g,0,none⟩) zs.length zs.length,.int .i64 0])∧z0f w' 130 g zs.length (wdz (nat zs)) (Canon.ln (nat zs))) ∧
 Below w.heap.size w w'
theorem y2a.bad {zs:List Int} {most:Int} {loose:Bool} {w:World} (h:¬ (z2x zs.length most∧∀z∈zs,z2v most z)):y2a zs most loose w (.returned (.tuple #[.slice none 0 0,.int .i64 2])) w :=
 ⟨fun _=>rfl,fun h'=>absurd h' h,fun h'=>absurd h' h,Below.refl _ _⟩
theorem meas {k i i':Nat} (h1:i'=i+1) (h2:i'≤k):k-i'<k-i:=by omega
theorem w6u {M l l':Nat} (h1:l'=l+1) (h2:l≤M):M+1-l'<M+1-l:=by omega
theorem x5z {w:World} {g k l M:Nat} {W L:Nat→Nat} {ls:List Nat} (hrow:z0f w 130 g k W L) (hdone:∀i,i<k→0<Canon.ln ls i→Canon.ln ls i<l→W i=Canon.wd ls i∧L i=Canon.ln ls i)
  (hnot:∀i,i<k→Canon.ln ls i=0∨l≤Canon.ln ls i→W i=0∧L i=0) (hlm:∀i,i<k→Canon.ln ls i≤M) (hl:¬l≤M):z0f w 130 g k (wdz ls) (Canon.ln ls):=by
 have e:z2n k W L=z2n k (wdz ls) (Canon.ln ls):=y0u (fun i hi=>by
   unfold wdz
   by_cases h0:Canon.ln ls i=0
   ·rw [if_pos h0];exact (hnot i hi (.inl h0)).1
   ·rw [if_neg h0];exact (hdone i hi (by omega) (by have:=hlm i hi;omega)).1) (fun i hi=>by
   by_cases h0:Canon.ln ls i=0
   ·rw [h0];exact (hnot i hi (.inl h0)).2
   ·exact (hdone i hi (by omega) (by have:=hlm i hi;omega)).2)
 unfold z0f
 rw [←e]
 exact hrow
theorem y9w (v:Value) (zs:List Int) (most:Int) (loose:Bool) (w:World) (hr:z0w w v zs) (hok:z2x zs.length most) :
  Calls Tryz.prog 37 #[v,.int .i64 most,.bool loose] w fun e w'=>y2a zs most loose w e w':=by
 obtain ⟨a,cap,rfl,hsp⟩:=hr
 have HSP:=qz hsp
 have HOK:=qz hok
 obtain ⟨h1,h2,h3,h4⟩:=hok
 obtain ⟨n,hn⟩:∃n,n=zs.length:=⟨_,rfl⟩
 rw [←hn] at HSP h3 h4 ⊢
 have HN:=qz hn
 have g1:¬most<1:=by omega
 have g2:¬20<most:=by omega
 have g3:¬ (n:Int)<1:=by omega
 have g4:¬ (65536:Int)<(n:Int):=by omega
 clear hsp hn
 go_enter Tryz.func37,Tryz.ntmps37
 go_wp2_with fail
 go_loopg [8,9,10,11] n (fun gk s c o i ws=>∃ (k:Nat),gk=n-k∧k≤n∧(∀j,j<k→z2v most (zs.getD j 0))∧Canon.sum ((nat zs).take k)≤k*524288∧words ((nat zs).take k)≤k∧((nat zs).take k).count 1≤k∧s=.int .i64 (Canon.sum ((nat zs).take k):Int)∧c=.int .i64 (words ((nat zs).take k):Int)∧o=.int .i64 (((nat zs).take k).count 1:Int)∧i=.int .i64 (k:Int)∧ws=w)
 case atStart=>exact ⟨0,by omega,by omega,by omega,by rw [List.take_zero,Canon.sum_nil];omega,by simp [words],by simp,by rw [List.take_zero,Canon.sum_nil];rfl,rfl,rfl,rfl,rfl⟩
 case round =>
  obtain ⟨k,rfl,hk,hgood,hsb,hwb,hob,rfl,rfl,rfl,rfl,rfl⟩:=hrel
  by_cases hlt:k<n
  ·obtain ⟨b,off,rfl,hcell⟩:=uh HSP (by omega)
   have hlz:k<zs.length:=by rw [←uh HN];exact hlt
   obtain ⟨z,hz⟩:∃z,z=zs.getD k 0:=⟨_,rfl⟩
   have hcc:=hcell k (by first|exact hlz|omega)
   rw [←hz] at hcc
   have hki:(k:Int)<(n:Int):=by omega
   by_cases hbad:z2v most z
   ·obtain ⟨hz0,hzm⟩:=hbad
    obtain ⟨l,rfl⟩:=Int.eq_ofNat_of_zero_le hz0
    have e0:¬ (l:Int)<0:=by omega
    have e1:¬most<(l:Int):=by omega
    have ht:=w1l zs k hlz
    rw [←hz,Int.toNat_natCast] at ht
    have hl20:l≤20:=by omega
    have HS:=qz (Canon.z9a ((nat zs).take k) l hl20)
    have HW:=qz (y4f ((nat zs).take k) l)
    have HO:=qz (x2s ((nat zs).take k) l)
    rw [←ht] at HS HW HO
    have HGOOD:Hid (∀j,j<k+1→z2v most (zs.getD j 0)):=qz fun j hj=>by
     by_cases e:j=k
     ·rw [e,←hz];exact ⟨hz0,hzm⟩
     ·exact hgood j (by omega)
    obtain ⟨s,hs⟩:∃s,s=Canon.sum ((nat zs).take k):=⟨_,rfl⟩
    obtain ⟨c,hc⟩:∃c,c=words ((nat zs).take k):=⟨_,rfl⟩
    obtain ⟨o,ho⟩:∃o,o=((nat zs).take k).count 1:=⟨_,rfl⟩
    rw [←hs] at hsb HS ⊢
    rw [←hc] at hwb HW ⊢
    rw [←ho] at hob HO ⊢
    obtain ⟨k',ek⟩:∃k',k'=k+1:=⟨_,rfl⟩
    have w5:(k:Int)+1=(k':Int):=by omega
    have w6:wrap64 (k':Int)=(k':Int):=w64 (by omega) (by omega)
    rw [←ek] at HS HW HO HGOOD
    clear hcell hz hlz hgood hs hc ho ht hz0 hzm
    by_cases hl0:0<l
    ·have e2:(0:Int)<(l:Int):=by omega
     obtain ⟨P,hP⟩:∃P,P=2^(20-l):=⟨_,rfl⟩
     have hPb:P≤524288:=by rw [hP];exact z6v hl0
     obtain ⟨m,hm⟩:∃m,m=20-l:=⟨_,rfl⟩
     have HMI:Hid ((20:Int)-(l:Int)=(m:Int)):=qz (by clear hP;omega)
     have HM:=qz hm
     clear hm
     have HPE:Hid ((2:Int)^m=(P:Int)):=qz (by rw [hP,uh HM];simp)
     rw [if_pos hl0,←hP] at HS
     clear hP
     have HPI:Hid (wrap64 ((2:Int)^m)=(P:Int)):=qz (by rw [uh HPE];exact w64 (by omega) (by omega))
     rw [if_pos hl0] at HW
     obtain ⟨s',es⟩:∃s',s'=s+P:=⟨_,rfl⟩
     obtain ⟨c',ec⟩:∃c',c'=c+1:=⟨_,rfl⟩
     have w1:(s:Int)+(P:Int)=(s':Int):=by omega
     have w2:(c:Int)+1=(c':Int):=by omega
     have w3:wrap64 (s':Int)=(s':Int):=w64 (by omega) (by omega)
     have w4:wrap64 (c':Int)=(c':Int):=w64 (by omega) (by omega)
     rw [←es] at HS
     rw [←ec] at HW
     by_cases hl1:l=1
     ·rw [if_pos hl1] at HO
      obtain ⟨o',eo⟩:∃o',o'=o+1:=⟨_,rfl⟩
      have w7:(o:Int)+1=(o':Int):=by omega
      have w8:wrap64 (o':Int)=(o':Int):=w64 (by omega) (by omega)
      rw [←eo] at HO
      have e3:((l:Int) == 1)=true:=by simp;omega
      have HB:Hid (k'≤n∧s'≤k'*524288∧c'≤k'∧o'≤k'):=qz (by clear w1 w2 w3 w4 w5 w6 w7 w8;exact ⟨by omega,by omega,by omega,by omega⟩)
      have HEK:=qz ek
      have hPi:=uh HPI
      have hmi:=uh HMI
      have hm21:(m:Int)<21:=by have:=uh HM;clear hPi;omega
      clear ek hPb hl1 hsb hwb hob hl0 hlt hk es ec eo
      go_wp2_with fail
      go_roundg (n-k')
      case measure=>exact meas (uh HEK) (uh HB).1
      case rel =>
       obtain ⟨b1,b2,b3,b4⟩:=uh HB
       exact ⟨k',rfl,b1,uh HGOOD,by rw [uh HS];exact b2,by rw [uh HW];exact b3,by rw [uh HO];exact b4,by rw [uh HS],by rw [uh HW],by rw [uh HO],rfl,rfl⟩
     ·rw [if_neg hl1,Nat.add_zero] at HO
      have e3:((l:Int) == 1)=false:=by simp;omega
      have HB:Hid (k'≤n∧s'≤k'*524288∧c'≤k'∧o≤k'):=qz (by clear w1 w2 w3 w4 w5 w6;exact ⟨by omega,by omega,by omega,by omega⟩)
      have HEK:=qz ek
      have hPi:=uh HPI
      have hmi:=uh HMI
      have hm21:(m:Int)<21:=by have:=uh HM;clear hPi;omega
      clear ek hPb hl1 hsb hwb hob hl0 hlt hk es ec
      go_wp2_with fail
      go_roundg (n-k')
      case measure=>exact meas (uh HEK) (uh HB).1
      case rel =>
       obtain ⟨b1,b2,b3,b4⟩:=uh HB
       exact ⟨k',rfl,b1,uh HGOOD,by rw [uh HS];exact b2,by rw [uh HW];exact b3,by rw [uh HO];exact b4,by rw [uh HS],by rw [uh HW],by rw [uh HO],rfl,rfl⟩
    ·rw [if_neg hl0,Nat.add_zero] at HS HW
     rw [if_neg (show ¬l=1 by omega),Nat.add_zero] at HO
     have e2:¬ (0:Int)<(l:Int):=by omega
     have e3:((l:Int) == 1)=false:=by simp;omega
     have HB:Hid (k'≤n∧s≤k'*524288∧c≤k'∧o≤k'):=qz (by omega)
     have HEK:=qz ek
     clear ek hsb hwb hob hl0 hlt hk
     go_wp2_with fail
     go_roundg (n-k')
     case measure=>exact meas (uh HEK) (uh HB).1
     case rel =>
      obtain ⟨b1,b2,b3,b4⟩:=uh HB
      exact ⟨k',rfl,b1,uh HGOOD,by rw [uh HS];exact b2,by rw [uh HW];exact b3,by rw [uh HO];exact b4,by rw [uh HS],by rw [uh HW],by rw [uh HO],rfl,rfl⟩
   ·have HBAD:Hid (¬ (z2x zs.length most∧∀z∈zs,z2v most z)):=qz fun h=>hbad (by
     rw [hz]
     have:zs.getD k 0∈zs:=by rw [List.getD_eq_getElem?_getD,List.getElem?_eq_getElem hlz];exact List.getElem_mem _
     exact h.2 _ this)
    by_cases e0:z<0
    ·clear hcell hz hlz hgood hsb hwb hob hbad hlt hk
     go_wp2_with fail
     go_ret2
     exact y2a.bad (uh HBAD)
    ·have e1:most<z:=by unfold z2v at hbad;omega
     clear hcell hz hlz hgood hsb hwb hob hbad hlt hk
     go_wp2_with fail
     go_ret2
     exact y2a.bad (uh HBAD)
  ·obtain rfl:k=n:=by omega
   have hall:∀z∈zs,z2v most z:=fun z hz=>by
    obtain ⟨j,hj,rfl⟩:=List.getElem_of_mem hz
    have:=hgood j (by rw [uh HN];exact hj)
    rw [List.getD_eq_getElem?_getD,List.getElem?_eq_getElem hj] at this
    exact this
   have HALL:=qz hall
   have htk:(nat zs).take k=nat zs:=List.take_of_length_le (by simp [nat];rw [←uh HN];exact Nat.le_refl _)
   rw [htk] at hsb hwb hob ⊢
   obtain ⟨s,hs⟩:∃s,s=Canon.sum (nat zs):=⟨_,rfl⟩
   obtain ⟨c,hc⟩:∃c,c=words (nat zs):=⟨_,rfl⟩
   obtain ⟨o,ho⟩:∃o,o=(nat zs).count 1:=⟨_,rfl⟩
   have HSUM:Hid (z2s (nat zs) loose↔s=1048576∨loose=true∧(c=0∨c=1∧o=1)):=qz (by unfold z2s;rw [hs,hc,ho])
   rw [←hs] at hsb ⊢
   rw [←hc] at hwb ⊢
   rw [←ho] at hob ⊢
   have HS:=qz hs
   clear hgood hsb hwb hob hs hc ho hlt hk hall htk
   obtain ⟨V,hV⟩:∃V:Bool,V=!decide (s=1048576∨loose=true∧(c=0∨c=1∧o=1)):=⟨_,rfl⟩
   have HV:=qz hV
   clear hV
   go_upto_region 16 with fail
   go_cut [91] (fun v91 wc=>v91=.bool V∧wc=wr)
   case first =>
    by_cases c1:s=1048576
    ·have f1:((s:Int) != 1048576)=false:=by simp;omega
     have HR:Hid (V=false):=qz (by rw [uh HV];simp [c1])
     clear c1
     go_wp2_with fail
     go_meet
     exact ⟨by rw [uh HR],rfl⟩
    ·have f1:((s:Int) != 1048576)=true:=by simp;omega
     cases loose with
     | false =>
      have HR:Hid (V=true):=qz (by rw [uh HV];simp [c1])
      clear c1
      go_wp2_with fail
      go_meet
      exact ⟨by rw [uh HR],rfl⟩
     | true =>
      by_cases c2:c=0
      ·have f2:((c:Int) == 0)=true:=by simp;omega
       have HR:Hid (V=false):=qz (by rw [uh HV];simp [c2])
       clear c1 c2
       go_wp2_with fail
       go_meet
       exact ⟨by rw [uh HR],rfl⟩
      ·have f2:((c:Int) == 0)=false:=by simp;omega
       by_cases c3:c=1
       ·have f3:((c:Int) == 1)=true:=by simp;omega
        by_cases c4:o=1
        ·have f4:((o:Int) == 1)=true:=by simp;omega
         have HR:Hid (V=false):=qz (by rw [uh HV];simp [c3,c4])
         clear c1 c2 c3 c4
         go_wp2_with fail
         go_meet
         exact ⟨by rw [uh HR],rfl⟩
        ·have f4:((o:Int) == 1)=false:=by simp;omega
         have HR:Hid (V=true):=qz (by rw [uh HV];simp [c1,c2,c4])
         clear c1 c2 c3 c4
         go_wp2_with fail
         go_meet
         exact ⟨by rw [uh HR],rfl⟩
       ·have f3:((c:Int) == 1)=false:=by simp;omega
        have HR:Hid (V=true):=qz (by rw [uh HV];simp [c1,c2,c3])
        clear c1 c2 c3
        go_wp2_with fail
        go_meet
        exact ⟨by rw [uh HR],rfl⟩
   case rest =>
    obtain ⟨rfl,rfl⟩:=hcut
    cases V with
    | true =>
     have HNO:Hid (¬z2s (nat zs) loose):=qz (fun h=>by
      have h2:=(uh HSUM).1 h
      have h3:=uh HV
      simp [h2] at h3)
     go_wp2_with fail
     go_ret2
     exact ⟨fun h=>absurd ⟨uh HOK,uh HALL⟩ h,fun _ _=>rfl,fun _ h=>absurd h (uh HNO),Below.refl _ _⟩
    | false =>
     have HYES:Hid (z2s (nat zs) loose):=qz ((uh HSUM).2 (by
      have h3:=uh HV
      simp only [Bool.false_eq,Bool.not_eq_false',decide_eq_true_eq] at h3
      exact h3))
     obtain ⟨M,hM⟩:=Int.eq_ofNat_of_zero_le (show 0≤most by omega)
     subst hM
     have hl20:∀l∈nat zs,l≤M∧l≤20:=fun l hl=>by
      obtain ⟨z,hz,rfl⟩:=List.mem_map.1 hl
      have:=uh HALL z hz
      unfold z2v at this
      omega
     have hsum:=z2s.le (fun l hl=>(hl20 l hl).2) (uh HYES)
     obtain ⟨ls,hls⟩:∃ls,ls=nat zs:=⟨_,rfl⟩
     have hzl:∀i,i<k→zs.getD i 0=(Canon.ln ls i:Int):=fun i hi=>by
      have hi':i<zs.length:=by rw [←uh HN];exact hi
      have h0:=uh HALL zs[i] (List.getElem_mem _)
      unfold z2v at h0
      rw [hls]
      simp [Canon.ln,nat,hi']
      omega
     have hlen:ls.length=k:=by rw [hls,uh HN];simp [nat]
     rw [←hls] at hl20 hsum
     have hlnM:∀i,i<k→Canon.ln ls i≤M:=fun i hi=>by
      have:Canon.ln ls i∈ls:=by rw [Canon.ln,List.getD_eq_getElem?_getD,List.getElem?_eq_getElem (by omega)];exact List.getElem_mem _
      exact (hl20 _ this).1
     have HLS:=qz hls
     have HZL:=qz hzl
     have HLEN:=qz hlen
     have HLM:=qz hlnM
     have HSUML:=qz hsum
     have hmk:=x4h wc k (by omega)
     clear hls hzl hlen hlnM hsum hl20
     go_wp2_with fail
     have HROW:Hid (z0f (wc.alloc (.cells (z2n k (fun _=>0) (fun _=>0)) 130)) 130 wc.heap.size k (fun _=>0) (fun _=>0)):=qz (heap_alloc_last wc _)
     have HBE:Hid (Below wc.heap.size wc (wc.alloc (.cells (z2n k (fun _=>0) (fun _=>0)) 130))):=qz ((Below.refl _ _).alloc (Nat.le_refl _) _)
     clear hmk
     generalize wc.alloc (.cells (z2n k (fun _=>0) (fun _=>0)) 130)=w0 at *
     obtain ⟨g,hg⟩:∃g,g=wc.heap.size:=⟨_,rfl⟩
     rw [←hg] at HROW HBE ⊢
     have HG:=qz hg
     clear hg
     go_loopg [13,14] M (fun gk nx lv ws=>∃ (l:Nat) (W L:Nat→Nat),gk=M+1-l∧1≤l∧l≤M+1∧nx=.int .u32 ((Canon.fst ls (l-1)+Canon.cn ls (l-1):Nat):Int)∧lv=.int .i64 (l:Int)∧z0f ws 130 g k W L∧Below g wc ws∧(∀i,i<k→0<Canon.ln ls i→Canon.ln ls i<l→W i=Canon.wd ls i∧L i=Canon.ln ls i)∧(∀i,i<k→Canon.ln ls i=0∨l≤Canon.ln ls i→W i=0∧L i=0))
     case atStart=>exact ⟨1,_,_,by omega,by omega,by omega,rfl,rfl,uh HROW,uh HBE,fun i _ h1 h2=>by omega,fun _ _ _=>⟨rfl,rfl⟩⟩
     case round =>
      obtain ⟨l,W,L,rfl,hl1,hlM,rfl,rfl,hrow,hbel,hdone,hnot⟩:=hrel
      by_cases hle:l≤M
      ·have hli:(l:Int)≤(M:Int):=by omega
       have hM20:M≤20:=by omega
       have hf1:=x0x (uh HSUML) (l-1) (by omega)
       have hf2:=x0x (uh HSUML) l (by omega)
       have hfs:(Canon.fst ls (l-1)+Canon.cn ls (l-1))*2=Canon.fst ls l:=by
        have:l=(l-1)+1:=by omega
        rw [this,Canon.fst];rfl
       obtain ⟨x,hx⟩:∃x,x=Canon.fst ls (l-1)+Canon.cn ls (l-1):=⟨_,rfl⟩
       obtain ⟨y,hy⟩:∃y,y=Canon.fst ls l:=⟨_,rfl⟩
       rw [←hx] at hf1 hfs ⊢
       rw [←hy] at hf2 hfs
       have m1:(x:Int)*2=(y:Int):=by omega
       have m2:(y:Int)%4294967296=(y:Int):=by omega
       have HY:=qz hy
       have HF2:=qz hf2
       have HROWI:=qz hrow
       have HBELI:=qz hbel
       have HDONE:=qz hdone
       have HNOT:=qz hnot
       have HLE:Hid (1≤l∧l≤M∧M≤20∧k≤65536):=qz ⟨hl1,hle,hM20,by omega⟩
       clear hx hy hf1 hf2 hfs hrow hbel hdone hnot hle hl1 hlM hM20
       go_wp2_with fail
       go_loopg [13,15] k (fun gk nx iv ws=>∃ (i:Nat) (W L:Nat→Nat),gk=k-i∧i≤k∧nx=.int .u32 ((y+(ls.take i).count l:Nat):Int)∧iv=.int .i64 (i:Int)∧z0f ws 130 g k W L∧Below g wc ws∧(∀x,x<k→0<Canon.ln ls x→Canon.ln ls x<l→W x=Canon.wd ls x∧L x=Canon.ln ls x)∧(∀x,x<i→Canon.ln ls x=l→W x=Canon.wd ls x∧L x=Canon.ln ls x)∧(∀x,x<k→Canon.ln ls x=0∨l<Canon.ln ls x∨Canon.ln ls x=l∧i≤x→W x=0∧L x=0))
       case atStart=>exact ⟨0,W,L,by omega,by omega,rfl,rfl,uh HROWI,uh HBELI,uh HDONE,fun x h=>by omega,fun x hx h=>uh HNOT x hx (by omega)⟩
       case round =>
        obtain ⟨i,W,L,rfl,hi,rfl,rfl,hrow,hbel,hdone,hlev,hnot⟩:=hrel
        obtain ⟨q1,q2,q3,q4⟩:=uh HLE
        by_cases hlt:i<k
        ·obtain ⟨b,off,rfl,hcell⟩:=uh HSP (by omega)
         have hz:=uh HZL i hlt
         have hgk:g=wc.heap.size:=uh HG
         have hcc:_=_:=z0a (by rw [←hgk];exact hbel) (hcell i (by have:=uh HN;omega))
         rw [hz] at hcc
         have htk:=Canon.z2z ls i l (by have:=uh HLEN;omega)
         have hcl:(ls.take i).count l≤Canon.cn ls l:=by
          rw [Canon.cn,if_neg (by omega)]
          have:=Canon.z4p ls l (show i≤ls.length by have:=uh HLEN;omega)
          rw [List.take_length] at this
          exact this
         have hyb:=uh HF2
         have hil:(i:Int)<(k:Int):=by omega
         obtain ⟨i',ei⟩:∃i',i'=i+1:=⟨_,rfl⟩
         have w5:(i:Int)+1=(i':Int):=by omega
         have HIK:Hid (i'≤k):=qz (by omega)
         have HW6:Hid (wrap64 (i':Int)=(i':Int)):=qz (w64 (by omega) (by omega))
         have HEI:=qz ei
         have HROWJ:=qz hrow
         have HBELJ:=qz hbel
         by_cases he:Canon.ln ls i=l
         ·rw [if_pos he] at htk
          rw [he] at hcc
          have hwd:y+(ls.take i).count l=Canon.wd ls i:=by rw [Canon.wd,Canon.rk,he,uh HY]
          have k1:=hrow.word i hlt
          have k2:=hrow.len i hlt
          have k3:=hrow.free (i*2)
          have k4:=hrow.free (i*2+1)
          obtain ⟨x,hx⟩:∃x,x=y+(ls.take i).count l:=⟨_,rfl⟩
          obtain ⟨x',hx'⟩:∃x',x'=y+(ls.take (i+1)).count l:=⟨_,rfl⟩
          rw [←hx] at hwd ⊢
          have m1:(x:Int)+1=(x':Int):=by omega
          have m2:(x':Int)%4294967296=(x':Int):=by omega
          have e1:((l:Int) == (l:Int))=true:=by simp
          have HX':Hid (x'=y+(ls.take i').count l):=qz (by rw [hx',ei])
          have HREL:Hid (∃W2 L2:Nat→Nat,(∀ws,z0f ws 130 g k W L→z0f ((ws.setCell ⟨g,i*2,none⟩ (.int .u32 (x:Int))).setCell ⟨g,i*2+1,none⟩ (.int .i64 (l:Int))) 130 g k W2 L2)∧(∀x,x<k→0<Canon.ln ls x→Canon.ln ls x<l→W2 x=Canon.wd ls x∧L2 x=Canon.ln ls x)∧(∀x,x<i'→Canon.ln ls x=l→W2 x=Canon.wd ls x∧L2 x=Canon.ln ls x)∧(∀x,x<k→Canon.ln ls x=0∨l<Canon.ln ls x∨Canon.ln ls x=l∧i'≤x→W2 x=0∧L2 x=0)):=by
           refine qz ⟨upd W i x,upd L i l,fun ws h=>h.set i x l,fun z hz h1 h2=>?_,fun z hz h1=>?_,fun z hz h1=>?_⟩
           ·have:z≠i:=by rintro rfl;exact absurd he (Nat.ne_of_lt h2)
            simp only [upd,if_neg this];exact hdone z hz h1 h2
           ·by_cases e:z=i
            ·subst e;simp only [upd,if_pos];exact ⟨hwd,he.symm⟩
            ·simp only [upd,if_neg e];exact hlev z (lt_b ei hz e) h1
           ·have:z≠i:=by rintro rfl;exact ne_c he q1 ei h1
            simp only [upd,if_neg this];exact hnot z hz (or_d ei h1)
          have w6:=uh HW6
          clear hcell hz hgk htk hcl hyb hrow hbel hdone hlev hnot hx hx' hwd he ei hlt hi q1 q2 q3 q4
          go_wp2_with fail
          go_roundg (k-i')
          case measure=>exact meas (uh HEI) (uh HIK)
          case rel =>
           obtain ⟨W2,L2,r1,r2,r3,r4⟩:=uh HREL
           exact ⟨i',W2,L2,rfl,uh HIK,by rw [←uh HX'],by first|rfl|exact congrArg (Value.int .i64) (uh HW6)|(rw [w5];exact congrArg (Value.int .i64) (uh HW6)),r1 _ (uh HROWJ),((uh HBELJ).setCell (by exact Nat.le_refl _) _).setCell (by exact Nat.le_refl _) _,r2,r3,r4⟩
         ·rw [if_neg he] at htk
          have e1:(((Canon.ln ls i:Nat):Int) == (l:Int))=false:=by simp;omega
          have HX':Hid ((ls.take i').count l=(ls.take i).count l):=qz (by rw [ei,htk];try rw [Nat.add_zero])
          have HREL:Hid ((∀x,x<i'→Canon.ln ls x=l→W x=Canon.wd ls x∧L x=Canon.ln ls x)∧(∀x,x<k→Canon.ln ls x=0∨l<Canon.ln ls x∨Canon.ln ls x=l∧i'≤x→W x=0∧L x=0)):=by
           refine qz ⟨fun z hz h1=>?_,fun z hz h1=>hnot z hz (or_d ei h1)⟩
           by_cases e:z=i
           ·subst e;exact absurd h1 he
           ·exact hlev z (lt_b ei hz e) h1
          have HDN:=qz hdone
          have w6:=uh HW6
          clear hcell hz hgk htk hcl hyb hrow hbel hdone hlev hnot he ei hlt hi q1 q2 q3 q4
          go_wp2_with fail
          go_roundg (k-i')
          case measure=>exact meas (uh HEI) (uh HIK)
          case rel =>
           obtain ⟨r3,r4⟩:=uh HREL
           exact ⟨i',W,L,rfl,uh HIK,by rw [uh HX'],by first|rfl|exact congrArg (Value.int .i64) (uh HW6)|(rw [w5];exact congrArg (Value.int .i64) (uh HW6)),uh HROWJ,uh HBELJ,uh HDN,r3,r4⟩
        ·obtain rfl:i=k:=by omega
         have hil:¬ (i:Int)<(i:Int):=by omega
         have htl:ls.take i=ls:=List.take_of_length_le (by have:=uh HLEN;omega)
         rw [htl]
         have hcn:y+ls.count l=Canon.fst ls l+Canon.cn ls l:=by rw [uh HY,Canon.cn,if_neg (by omega)]
         rw [hcn]
         obtain ⟨l',el⟩:∃l',l'=l+1:=⟨_,rfl⟩
         have w5:(l:Int)+1=(l':Int):=by omega
         have HW6:Hid (wrap64 (l':Int)=(l':Int)):=qz (w64 (by omega) (by omega))
         have HEL:=qz el
         have HLB:Hid (1≤l∧l≤M):=qz ⟨q1,q2⟩
         have HROWJ:=qz hrow
         have HBELJ:=qz hbel
         have HREL:Hid ((∀x,x<i→0<Canon.ln ls x→Canon.ln ls x<l'→W x=Canon.wd ls x∧L x=Canon.ln ls x)∧(∀x,x<i→Canon.ln ls x=0∨l'≤Canon.ln ls x→W x=0∧L x=0)):=by
          refine qz ⟨fun z hz h1 h2=>?_,fun z hz h1=>hnot z hz (by omega)⟩
          by_cases e:Canon.ln ls z=l
          ·exact hlev z hz e
          ·exact hdone z hz h1 (by omega)
         obtain ⟨X,hX⟩:∃X,X=Canon.fst ls l+Canon.cn ls l:=⟨_,rfl⟩
         rw [←hX]
         have HX:=qz hX
         have w6:=uh HW6
         clear hrow hbel hdone hlev hnot htl hcn el hX hlt hi q1 q2 q3 q4 m1 m2
         go_wp2_with fail
         go_roundg (M+1-l')
         case measure=>exact w6u (uh HEL) (uh HLB).2
         case rel =>
          obtain ⟨r3,r4⟩:=uh HREL
          have e':=uh HEL
          have b':=uh HLB
          exact ⟨l',W,L,rfl,by omega,by omega,by rw [show l'-1=l by omega,←uh HX],by first|rfl|exact congrArg (Value.int .i64) (uh HW6)|(rw [w5];exact congrArg (Value.int .i64) (uh HW6)),uh HROWJ,uh HBELJ,r3,r4⟩
      ·have hli:¬ (l:Int)≤(M:Int):=by omega
       have HFIN:=qz (x5z hrow hdone hnot (uh HLM) hle)
       have HBELJ:=qz hbel
       clear hrow hbel hdone hnot hle hl1 hlM
       go_wp2_with fail
       go_ret2
       have hgk:=uh HG
       have hnk:=uh HN
       refine ⟨fun h=>absurd ⟨uh HOK,uh HALL⟩ h,fun _ h=>absurd (uh HYES) h,fun _ _=>⟨g,by rw [hgk];exact Nat.le_refl _,by rw [hnk];rfl,?_⟩,by rw [←hgk];exact uh HBELJ⟩
       rw [←hnk,←uh HLS]
       exact uh HFIN
end R8
section
def updB (T:Nat→Bool) (j:Nat) (y:Bool):Nat→Bool:=fun i=>if i=j then y else T i
structure Trie (N:Nat) (A B S:Nat→Nat) (H:Nat→Bool) (P:Nat→Prop) (Wd:Nat→Nat→Prop) (ix ky:Nat→Nat):Prop where
 two:2≤N
 out:∀a,a=0∨N≤a→A a=0∧B a=0∧S a=0∧H a=false
 root:ky 1=1
 inK:∀a,1≤a→a<N→P (ky a)∧ix (ky a)=a
 inX:∀k,P k→1≤ix k∧ix k<N∧ky (ix k)=k∧1≤k
 no:∀k,¬P k→ix k=0
 kid:∀a,1≤a→a<N→A a=ix (2*ky a)∧B a=ix (2*ky a+1)
 closed:∀k,P k→2≤k→P (k/2)
 mark:∀a,1≤a→a<N→(∀i,Wd i (ky a)→H a=true∧S a=i)∧((∀i,¬Wd i (ky a))→H a=false∧S a=0)
 wdP:∀i k,Wd i k→P k
section
variable {N:Nat} {A B S:Nat→Nat} {H:Nat→Bool} {P P':Nat→Prop} {Wd Wd':Nat→Nat→Prop} {ix ky:Nat→Nat}
theorem Trie.congr (h:Trie N A B S H P Wd ix ky) (hp:∀k,P k↔P' k) (hw:∀i k,Wd i k↔Wd' i k):Trie N A B S H P' Wd' ix ky where
 two:=h.two
 out:=h.out
 root:=h.root
 inK:=fun a h1 h2=>⟨(hp _).1 (h.inK a h1 h2).1,(h.inK a h1 h2).2⟩
 inX:=fun k hk=>h.inX k ((hp _).2 hk)
 no:=fun k hk=>h.no k (fun h'=>hk ((hp _).1 h'))
 kid:=h.kid
 closed:=fun k hk h2=>(hp _).1 (h.closed k ((hp _).2 hk) h2)
 mark:=fun a h1 h2=>⟨fun i hi=>(h.mark a h1 h2).1 i ((hw _ _).2 hi),fun hi=>(h.mark a h1 h2).2 (fun i hi'=>hi i ((hw _ _).1 hi'))⟩
 wdP:=fun i k hk=>(hp _).1 (h.wdP i k ((hw _ _).2 hk))
theorem Trie.start:Trie 2 (fun _=>0) (fun _=>0) (fun _=>0) (fun _=>false) (fun k=>k=1) (fun _ _=>False) (fun k=>if k=1 then 1 else 0) (fun a=>if a=1 then 1 else 0) where
 two:=by omega
 out:=fun _ _=>⟨rfl,rfl,rfl,rfl⟩
 root:=rfl
 inK:=fun a h1 h2=>by obtain rfl:a=1:=by omega
                      exact ⟨rfl,rfl⟩
 inX:=fun k hk=>by subst hk;exact ⟨by simp,by simp,by simp,by omega⟩
 no:=fun k hk=>if_neg hk
 kid:=fun a h1 h2=>by obtain rfl:a=1:=by omega
                      exact ⟨rfl,rfl⟩
 closed:=fun k hk h2=>by omega
 mark:=fun a _ _=>⟨fun i hi=>hi.elim,fun _=>⟨rfl,rfl⟩⟩
 wdP:=fun i k hk=>hk.elim
theorem Trie.add (h:Trie N A B S H P Wd ix ky) (a b:Nat) (ha:1≤a) (haN:a<N) (hb:b≤1) (c:Nat) (hc:c=2*ky a+b) (hP:¬P c) :
  Trie (N+1) (if b=0 then upd A a N else A) (if b=0 then B else upd B a N) S H (fun k=>P k∨k=c) Wd (upd ix c N) (upd ky N c):=by
 have hka:=(h.inX _ (h.inK a ha haN).1).2.2.2
 have hc1:2≤c:=by omega
 have hc2:c/2=ky a:=by omega
 have kyo:∀a',a'<N→upd ky N c a'=ky a':=fun a' h'=>if_neg (by omega)
 have kyN:upd ky N c N=c:=if_pos rfl
 have ixc:upd ix c N c=N:=if_pos rfl
 have ixo:∀k,k≠c→upd ix c N k=ix k:=fun k h'=>if_neg h'
 have neK:∀a',1≤a'→a'<N→ky a'≠c:=fun a' h1 h2 e=>hP (e▸(h.inK a' h1 h2).1)
 have noC:∀d,d≤1→ix (2*c+d)=0:=fun d hd=>h.no _ (fun hp=>hP (by
  have:=h.closed _ hp (by omega)
  rwa [show (2*c+d)/2=c by omega] at this))
 refine ⟨by have:=h.two;omega,?_,?_,?_,?_,?_,?_,?_,?_,fun i k hk=>.inl (h.wdP i k hk)⟩
 ·intro a' ha'
  have h0:=h.out a' (by omega)
  have hne:a'≠a:=by omega
  by_cases e:b=0
  ·rw [if_pos e,if_pos e];exact ⟨by rw [show upd A a N a'=A a' from if_neg hne];exact h0.1,h0.2⟩
  ·rw [if_neg e,if_neg e];exact ⟨h0.1,by rw [show upd B a N a'=B a' from if_neg hne];exact h0.2.1,h0.2.2⟩
 ·rw [kyo 1 (by have:=h.two;omega)];exact h.root
 ·intro a' h1 h2
  by_cases e:a'=N
  ·subst e;rw [kyN,ixc];exact ⟨.inr rfl,rfl⟩
  ·have h3:=h.inK a' h1 (by omega)
   rw [kyo a' (by omega),ixo _ (neK a' h1 (by omega))]
   exact ⟨.inl h3.1,h3.2⟩
 ·intro k hk
  by_cases e:k=c
  ·subst e;rw [ixc,kyN];exact ⟨by omega,by omega,rfl,by omega⟩
  ·have h3:=h.inX k (hk.resolve_right e)
   rw [ixo k e,kyo _ h3.2.1]
   exact ⟨h3.1,by omega,h3.2.2⟩
 ·intro k hk
  rw [ixo k (fun e=>hk (.inr e))]
  exact h.no k (fun hp=>hk (.inl hp))
 ·intro a' h1 h2
  by_cases e:a'=N
  ·subst e
   have h0:=h.out a' (by omega)
   have hne:a'≠a:=by omega
   have h4:=noC 0 (by omega)
   have h5:=noC 1 (by omega)
   rw [kyN,ixo _ (by omega),ixo _ (by omega)]
   by_cases e0:b=0
   ·rw [if_pos e0,if_pos e0,show upd A a a' a'=A a' from if_neg hne];exact ⟨by rw [h0.1];exact h4.symm,by rw [h0.2.1];exact h5.symm⟩
   ·rw [if_neg e0,if_neg e0,show upd B a a' a'=B a' from if_neg hne];exact ⟨by rw [h0.1];exact h4.symm,by rw [h0.2.1];exact h5.symm⟩
  ·have h3:=h.kid a' h1 (by omega)
   rw [kyo a' (by omega)]
   by_cases ea:a'=a
   ·subst ea
    by_cases e0:b=0
    ·subst e0
     rw [if_pos rfl,if_pos rfl,show upd A a' N a'=N from if_pos rfl,show 2*ky a'=c by omega,ixc,ixo _ (by omega)]
     exact ⟨rfl,by rw [h3.2];congr 1;omega⟩
    ·obtain rfl:b=1:=by omega
     rw [if_neg e0,if_neg e0,show upd B a' N a'=N from if_pos rfl,←hc,ixc,ixo _ (by omega)]
     exact ⟨h3.1,rfl⟩
   ·have hkne:ky a'≠ky a:=fun e'=>ea (by
     have e1:=(h.inK a' h1 (by omega)).2
     have e2:=(h.inK a ha haN).2
     rw [e'] at e1
     omega)
    rw [ixo _ (by omega),ixo _ (by omega)]
    by_cases e0:b=0
    ·rw [if_pos e0,if_pos e0,show upd A a N a'=A a' from if_neg ea];exact h3
    ·rw [if_neg e0,if_neg e0,show upd B a N a'=B a' from if_neg ea];exact h3
 ·intro k hk h2
  by_cases e:k=c
  ·subst e;rw [hc2];exact .inl (h.inK a ha haN).1
  ·exact .inl (h.closed k (hk.resolve_right e) h2)
 ·intro a' h1 h2
  by_cases e:a'=N
  ·subst e
   rw [kyN]
   have h0:=h.out a' (by omega)
   exact ⟨fun i hi=>absurd (h.wdP i c hi) hP,fun _=>⟨h0.2.2.2,h0.2.2.1⟩⟩
  ·rw [kyo a' (by omega)]
   exact h.mark a' h1 (by omega)
theorem Trie.put (h:Trie N A B S H P Wd ix ky) (a s:Nat) (ha:1≤a) (haN:a<N) (h0:¬P (2*ky a)) (h1:¬P (2*ky a+1)) (hw:∀i,¬Wd i (ky a)) :
  Trie N (upd A a 0) (upd B a 0) (upd S a s) (updB H a true) P (fun i k=>Wd i k∨i=s∧k=ky a) ix ky:=by
 have hk:=h.inK a ha haN
 refine ⟨h.two,?_,h.root,h.inK,h.inX,h.no,?_,h.closed,?_,?_⟩
 ·intro a' ha'
  have h3:=h.out a' ha'
  have hne:a'≠a:=by omega
  exact ⟨by rw [show upd A a 0 a'=A a' from if_neg hne];exact h3.1,by rw [show upd B a 0 a'=B a' from if_neg hne];exact h3.2.1,by rw [show upd S a s a'=S a' from if_neg hne];exact h3.2.2.1,by rw [show updB H a true a'=H a' from if_neg hne];exact h3.2.2.2⟩
 ·intro a' h1' h2'
  by_cases e:a'=a
  ·subst e
   rw [show upd A a' 0 a'=0 from if_pos rfl,show upd B a' 0 a'=0 from if_pos rfl,h.no _ h0,h.no _ h1]
   exact ⟨rfl,rfl⟩
  ·rw [show upd A a 0 a'=A a' from if_neg e,show upd B a 0 a'=B a' from if_neg e]
   exact h.kid a' h1' h2'
 ·intro a' h1' h2'
  by_cases e:a'=a
  ·subst e
   rw [show updB H a' true a'=true from if_pos rfl,show upd S a' s a'=s from if_pos rfl]
   refine ⟨fun i hi=>?_,fun hi=>absurd (.inr ⟨rfl,rfl⟩) (hi s)⟩
   rcases hi with hi|⟨rfl,_⟩
   ·exact absurd hi (hw i)
   ·exact ⟨rfl,rfl⟩
  ·rw [show updB H a true a'=H a' from if_neg e,show upd S a s a'=S a' from if_neg e]
   have hkne:ky a'≠ky a:=fun e'=>e (by
    have e1:=(h.inK a' h1' h2').2
    have e2:=hk.2
    rw [e'] at e1
    omega)
   have h3:=h.mark a' h1' h2'
   refine ⟨fun i hi=>?_,fun hi=>h3.2 (fun i hi'=>hi i (.inl hi'))⟩
   rcases hi with hi|⟨_,e'⟩
   ·exact h3.1 i hi
   ·exact absurd e' hkne
 ·intro i k hi
  rcases hi with hi|⟨_,rfl⟩
  ·exact h.wdP i k hi
  ·exact hk.1
end
/-! ### The keys of words -/
def key (ls:List Nat) (i:Nat):Nat:=2^Canon.ln ls i+Canon.wd ls i
def Beg (ls:List Nat) (s:Nat) (k:Nat):Prop:=k=1∨∃i,i<s∧0<Canon.ln ls i∧∃d,d≤Canon.ln ls i∧key ls i/2^d=k
def Wrd (ls:List Nat) (s:Nat) (i k:Nat):Prop:=i<s∧0<Canon.ln ls i∧key ls i=k
def z8j (ls:List Nat) (s l:Nat) (k:Nat):Prop:=Beg ls s k∨∃d,Canon.ln ls s-l≤d∧d≤Canon.ln ls s∧key ls s/2^d=k
structure Good (ls:List Nat):Prop where
 small:∀l∈ls,l≤20
 sum:Canon.sum ls≤1048576
theorem Good.has {ls:List Nat} (h:Good ls) {i:Nat} (hi:i<ls.length) (h0:0<Canon.ln ls i):Canon.Has ls i:=by
 refine ⟨hi,h0,h.small _ ?_⟩
 rw [Canon.ln,List.getD_eq_getElem?_getD,List.getElem?_eq_getElem hi]
 exact List.getElem_mem _
theorem y9e {L W d:Nat} (hd:d≤L):(2^L+W)/2^d=2^(L-d)+W/2^d:=by
 have hp:0<2^d:=Nat.two_pow_pos _
 rw [show 2^L=2^d*2^(L-d) by rw [←Nat.pow_add];congr 1;omega,Nat.mul_add_div hp]
theorem y9n {a b x y:Nat} (hx:x<2^a) (hy:y<2^b) (h:2^a+x=2^b+y):a=b∧x=y:=by
 rcases Nat.lt_trichotomy a b with e|e|e
 ·have:2^(a+1)≤2^b:=Nat.pow_le_pow_right (by decide) e
  rw [Nat.pow_succ] at this
  omega
 ·subst e;exact ⟨rfl,by omega⟩
 ·have:2^(b+1)≤2^a:=Nat.pow_le_pow_right (by decide) e
  rw [Nat.pow_succ] at this
  omega
theorem Good.free {ls:List Nat} (h:Good ls) {i j d:Nat} (hi:i<ls.length) (hi0:0<Canon.ln ls i) (hj:j<ls.length) (hj0:0<Canon.ln ls j) (hd:d≤Canon.ln ls j) (e:key ls j/2^d=key ls i):i=j∧d=0:=by
 have Hi:=h.has hi hi0
 have Hj:=h.has hj hj0
 have wi:=Canon.y8i Hi h.sum
 have wj:=Canon.y8i Hj h.sum
 rw [key,key,y9e hd] at e
 have hq:Canon.wd ls j/2^d<2^(Canon.ln ls j-d):=by
  rw [Nat.div_lt_iff_lt_mul (Nat.two_pow_pos _),←Nat.pow_add,show Canon.ln ls j-d+d=Canon.ln ls j by omega]
  exact wj
 obtain ⟨e1,e2⟩:=y9n hq wi e
 have:=Canon.free Hi Hj (by omega) (by rw [show Canon.ln ls j-Canon.ln ls i=d by omega];exact e2)
 subst this
 exact ⟨rfl,by omega⟩
theorem w4l (ls:List Nat) (i:Nat):1≤key ls i:=by
 have:0<2^Canon.ln ls i:=Nat.two_pow_pos _
 unfold key;omega
theorem y0m (k d:Nat):k/2^d/2=k/2^(d+1):=by rw [Nat.div_div_eq_div_mul,Nat.pow_succ]
theorem y9f {ls:List Nat} {i:Nat} (h:Canon.wd ls i<2^Canon.ln ls i):key ls i/2^Canon.ln ls i=1:=by
 rw [key,y9e (Nat.le_refl _),Nat.sub_self,Nat.div_eq_of_lt h]
theorem z8j.all (ls:List Nat) (s:Nat) (h0:0<Canon.ln ls s) (k:Nat):z8j ls s (Canon.ln ls s) k↔Beg ls (s+1) k:=by
 constructor
 ·rintro (h|⟨d,_,h2,h3⟩)
  ·rcases h with h|⟨i,hi,r⟩
   ·exact .inl h
   ·exact .inr ⟨i,by omega,r⟩
  ·exact .inr ⟨s,by omega,h0,d,h2,h3⟩
 ·rintro (h|⟨i,hi,r0,d,r1,r2⟩)
  ·exact .inl (.inl h)
  ·by_cases e:i=s
   ·subst e;exact .inr ⟨d,by omega,r1,r2⟩
   ·exact .inl (.inr ⟨i,by omega,r0,d,r1,r2⟩)
theorem z8j.zero {ls:List Nat} {s:Nat} (hw:Canon.wd ls s<2^Canon.ln ls s) (k:Nat):z8j ls s 0 k↔Beg ls s k:=by
 constructor
 ·rintro (h|⟨d,h1,h2,h3⟩)
  ·exact h
  ·obtain rfl:d=Canon.ln ls s:=by omega
   rw [y9f hw] at h3
   exact .inl h3.symm
 ·exact .inl
theorem z8j.succ (ls:List Nat) (s l:Nat) (hl:l<Canon.ln ls s) (k:Nat):z8j ls s (l+1) k↔(z8j ls s l k∨k=key ls s/2^(Canon.ln ls s-(l+1))):=by
 constructor
 ·rintro (h|⟨d,h1,h2,h3⟩)
  ·exact .inl (.inl h)
  ·by_cases e:d=Canon.ln ls s-(l+1)
   ·subst e;exact .inr h3.symm
   ·exact .inl (.inr ⟨d,by omega,h2,h3⟩)
 ·rintro ((h|⟨d,h1,h2,h3⟩)|h)
  ·exact .inl h
  ·exact .inr ⟨d,by omega,h2,h3⟩
  ·exact .inr ⟨_,by omega,by omega,h.symm⟩
theorem w1c (ls:List Nat) (s i:Nat) (hi:i<Canon.ln ls s):key ls s/2^i=2*(key ls s/2^(i+1))+Canon.wd ls s/2^i%2:=by
 have h1:=y0m (key ls s) i
 have h2:key ls s/2^i%2=Canon.wd ls s/2^i%2:=by
  rw [key,y9e (by omega),show Canon.ln ls s-i=(Canon.ln ls s-i-1)+1 by omega,Nat.pow_succ]
  omega
 omega
theorem Good.ends {ls:List Nat} (h:Good ls) {s:Nat} (hs:s<ls.length) (h0:0<Canon.ln ls s) (b:Nat) (hb:b≤1):¬Beg ls (s+1) (2*key ls s+b):=by
 have hp:=w4l ls s
 rintro (e|⟨i,hi,r0,d,r1,r2⟩)
 ·omega
 ·have h3:key ls i/2^(d+1)=key ls s:=by rw [←y0m,r2];omega
  by_cases e:d+1≤Canon.ln ls i
  ·have:=h.free hs h0 (by omega) r0 e h3
   omega
  ·obtain rfl:d=Canon.ln ls i:=by omega
   rw [y9f (Canon.y8i (h.has (by omega) r0) h.sum)] at r2
   omega
theorem Good.new {ls:List Nat} (h:Good ls) {s:Nat} (hs:s<ls.length) (h0:0<Canon.ln ls s) (i:Nat):¬Wrd ls s i (key ls s):=by
 rintro ⟨h1,h2,h3⟩
 have:=h.free hs h0 (j:=i) (d:=0) (by omega) h2 (by omega) (by simpa using h3)
 omega
theorem Wrd.succ (ls:List Nat) (s:Nat) (h0:0<Canon.ln ls s) (i k:Nat):Wrd ls (s+1) i k↔(Wrd ls s i k∨i=s∧k=key ls s):=by
 constructor
 ·rintro ⟨h1,h2,h3⟩
  by_cases e:i=s
  ·subst e;exact .inr ⟨rfl,h3.symm⟩
  ·exact .inl ⟨by omega,h2,h3⟩
 ·rintro (⟨h1,h2,h3⟩|⟨rfl,rfl⟩)
  ·exact ⟨by omega,h2,h3⟩
  ·exact ⟨by omega,h0,rfl⟩
theorem Beg.skip (ls:List Nat) (s:Nat) (h0:¬0<Canon.ln ls s) (k:Nat):Beg ls (s+1) k↔Beg ls s k:=by
 constructor
 ·rintro (h|⟨i,hi,r0,r⟩)
  ·exact .inl h
  ·exact .inr ⟨i,by have:i≠s:=by rintro rfl;exact h0 r0
                    omega,r0,r⟩
 ·rintro (h|⟨i,hi,r⟩)
  ·exact .inl h
  ·exact .inr ⟨i,by omega,r⟩
theorem Wrd.skip (ls:List Nat) (s:Nat) (h0:¬0<Canon.ln ls s) (i k:Nat):Wrd ls (s+1) i k↔Wrd ls s i k:=by
 constructor
 ·rintro ⟨h1,h2,h3⟩
  exact ⟨by have:i≠s:=by rintro rfl;exact h0 h2
            omega,h2,h3⟩
 ·rintro ⟨h1,h2,h3⟩
  exact ⟨by omega,h2,h3⟩
end
namespace Defl
def z0v (v:Int):List Int→Nat
 | []=>0
 | x :: r=>if x=v then 1+z0v v r else 0
theorem y1f (v:Int):∀l:List Int,z0v v l≤l.length
 | []=>Nat.le_refl _
 | x :: r=>by
  have:=y1f v r
  unfold z0v
  split
  ·simp;omega
  ·simp
theorem y1g (v:Int):∀ (l:List Int) (n:Nat),n≤z0v v l→l.take n=List.replicate n v
 | l,0,_=>by simp
 | [],n+1,h=>by simp [z0v] at h
 | x :: r,n+1,h=>by
  unfold z0v at h
  by_cases e:x=v
  ·rw [if_pos e] at h
   rw [List.take_succ_cons,List.replicate_succ,y1g v r n (by omega),e]
  ·rw [if_neg e] at h
   omega
def z0z (l:List Int) (a:Nat):Int × Nat × Nat :=
 if l.getD a 0=0∧11≤z0v (l.getD a 0) (l.drop a) then (18,min (z0v (l.getD a 0) (l.drop a)) 138-11,min (z0v (l.getD a 0) (l.drop a)) 138)
 else if l.getD a 0=0∧3≤z0v (l.getD a 0) (l.drop a) then (17,z0v (l.getD a 0) (l.drop a)-3,z0v (l.getD a 0) (l.drop a))
 else if 0<l.getD a 0∧0<a∧l.getD (a-1) 0=l.getD a 0∧3≤z0v (l.getD a 0) (l.drop a) then (16,min (z0v (l.getD a 0) (l.drop a)) 6-3,min (z0v (l.getD a 0) (l.drop a)) 6)
 else (l.getD a 0,0,1)
def z8z (l:List Int):Nat→Nat→List (Int × Nat)
 | 0,_=>[]
 | k+1,a=>if a<l.length then ((z0z l a).1,(z0z l a).2.1) :: z8z l k (a+(z0z l a).2.2) else []
def z3k (l:List Int):List (Int × Nat):=z8z l l.length 0
def nn (r:Int × Nat):Nat × Nat:=(r.1.toNat,r.2)
theorem y4v (l:List Int) (a:Nat) (h:a<l.length):1≤z0v (l.getD a 0) (l.drop a):=by
 rw [List.getD_eq_getElem?_getD,List.getElem?_eq_getElem h,List.drop_eq_getElem_cons h]
 unfold z0v
 rw [if_pos (by simp)]
 omega
theorem y2p (l:List Int) (a:Nat) (h:a<l.length):1≤(z0z l a).2.2∧(z0z l a).2.2≤z0v (l.getD a 0) (l.drop a):=by
 have h1:=y4v l a h
 unfold z0z
 split
 ·exact ⟨by simp only;omega,by simp only;omega⟩
 ·split
  ·exact ⟨by simp only;omega,by simp only;omega⟩
  ·split
   ·exact ⟨by simp only;omega,by simp only;omega⟩
   ·exact ⟨by simp only;omega,by simp only;omega⟩
theorem x9e (l:List Int) (a n:Nat) (h:n≤z0v (l.getD a 0) (l.drop a)):l.take (a+n)=l.take a++List.replicate n (l.getD a 0):=by
 rw [List.take_add,y1g _ _ n h]
def trim (n:Nat):Nat→List Nat→List Nat
 | 0,l=>l
 | k+1,l=>if n<l.length∧l.getD (l.length-1) 0=0 then trim n k (l.take (l.length-1)) else l
theorem z5p (n:Nat):∀ (k:Nat) (l:List Nat),n≤l.length→n≤(trim n k l).length∧(trim n k l).length≤l.length∧∀i,(trim n k l).getD i 0=l.getD i 0
 | 0,l,h=>⟨h,Nat.le_refl _,fun _=>rfl⟩
 | k+1,l,h=>by
  unfold trim
  by_cases c:n<l.length∧l.getD (l.length-1) 0=0
  ·rw [if_pos c]
   have hl:(l.take (l.length-1)).length=l.length-1:=by rw [List.length_take];omega
   obtain ⟨i1,i2,i3⟩:=z5p n k (l.take (l.length-1)) (by omega)
   refine ⟨i1,by omega,fun i=>?_⟩
   rw [i3 i,List.getD_eq_getElem?_getD,List.getElem?_take]
   by_cases e:i<l.length-1
   ·rw [if_pos e,List.getD_eq_getElem?_getD]
   ·rw [if_neg e]
    by_cases e2:i=l.length-1
    ·rw [e2,c.2];rfl
    ·rw [List.getD_eq_getElem?_getD,List.getElem?_eq_none (by omega)]
  ·rw [if_neg c]
   exact ⟨h,Nat.le_refl _,fun _=>rfl⟩
theorem z7t (n:Nat):∀ (k:Nat) (l:List Nat) (x:Nat),x∈trim n k l→x∈l
 | 0,l,x,h=>h
 | k+1,l,x,h=>by
  unfold trim at h
  split at h
  ·exact List.mem_of_mem_take (z7t n k _ x h)
  ·exact h
end Defl
namespace R8
open Go.RowKit Infl Defl
structure RuAt (w ws:World) (l:List Int) (a:Nat) (rs:List (Int × Nat)) (sv mv:Value):Prop where
 on:∃k,z3k l=rs++z8z l k a∧l.length≤a+k
 own1:ws.ownsRow w.heap.size 3 1 sv rs.length (rs.map fun r:Int × Nat=>iv r.1)
 own2:ws.ownsRow w.heap.size 3 1 mv rs.length (rs.map fun r:Int × Nat=>iv (r.2:Int))
 bel:Below w.heap.size w ws
 ne:∀g,sv.ownBlock=some g→mv.ownBlock≠some g
 cnt:rs.length≤a
theorem RuAt.start (w:World) (l:List Int):RuAt w w l 0 [] (.slice none 0 0) (.slice none 0 0) :=
 ⟨⟨l.length,rfl,by omega⟩,World.ownsRow_nil _ _ _ _,World.ownsRow_nil _ _ _ _,Below.refl _ _,fun g e=>(by cases e),(by simp)⟩
theorem RuAt.step {w ws:World} {l:List Int} {a:Nat} {rs:List (Int × Nat)} {sv mv:Value} (h:RuAt w ws l a rs sv mv) (ha:a<l.length):∃k,z3k l=(rs++[((z0z l a).1,(z0z l a).2.1)])++z8z l k (a+(z0z l a).2.2)∧l.length≤a+(z0z l a).2.2+k:=by
 obtain ⟨k,h1,h2⟩:=h.on
 obtain ⟨k',rfl⟩:∃k',k=k'+1:=⟨k-1,by omega⟩
 refine ⟨k',?_,by have:=(y2p l a ha).1;omega⟩
 rw [h1,z8z,if_pos ha,List.append_assoc]
 rfl
def Cnt (l:List Int) (a n:Nat) (v:Int):Prop:=z0v v (l.drop a)=n+z0v v (l.drop (a+n))
theorem Cnt.next {l:List Int} {a n:Nat} {v:Int} (h:Cnt l a n v) (hl:a+n<l.length) (hv:l.getD (a+n) 0=v):Cnt l a (n+1) v:=by
 unfold Cnt at *
 rw [h,List.drop_eq_getElem_cons hl]
 rw [List.getD_eq_getElem?_getD,List.getElem?_eq_getElem hl] at hv
 rw [z0v,if_pos (by simpa using hv),show a+(n+1)=a+n+1 from by omega]
 omega
theorem Cnt.stop {l:List Int} {a n:Nat} {v:Int} (h:Cnt l a n v) (hl:a+n<l.length) (hv:¬l.getD (a+n) 0=v):z0v v (l.drop a)=n:=by
 unfold Cnt at h
 rw [h,List.drop_eq_getElem_cons hl,z0v,if_neg (fun e=>hv (by rw [List.getD_eq_getElem?_getD,List.getElem?_eq_getElem hl];simpa using e))]
 rfl
theorem Cnt.fin {l:List Int} {a n:Nat} {v:Int} (h:Cnt l a n v) (hl:l.length≤a+n):z0v v (l.drop a)=n:=by
 unfold Cnt at h
 rw [h,List.drop_of_length_le hl]
 rfl
theorem RuAt.next {w ws w1 w2 w3 w4:World} {l:List Int} {a:Nat} {rs:List (Int × Nat)} {sv mv:Value} {g1 c1 g2 c2:Nat} {x:Int} {y n:Nat} {o1 o2:Obj} (h:RuAt w ws l a rs sv mv) (ha:a<l.length) (hst:z0z l a=(x,y,n))
  (e1:w1=ws.alloc o1) (hown1:w2.ownsRow w.heap.size 3 1 (.slice (some ⟨g1,0,none⟩) (rs.length+1) c1) (rs.length+1) ((rs.map fun r:Int × Nat=>iv r.1)++[iv x])) (hg1:w1.grownBy w2 sv.ownBlock) (hat1:sv.ownBlock=some g1∨g1=ws.heap.size+1)
  (e2:w3=w2.alloc o2) (hown2:w4.ownsRow w.heap.size 3 1 (.slice (some ⟨g2,0,none⟩) (rs.length+1) c2) (rs.length+1) ((rs.map fun r:Int × Nat=>iv (r.2:Int))++[iv (y:Int)])) (hg2:w3.grownBy w4 mv.ownBlock) (hat2:mv.ownBlock=some g2∨g2=w2.heap.size+1) :
  RuAt w w4 l (a+n) (rs++[(x,y)]) (.slice (some ⟨g1,0,none⟩) (rs.length+1) c1) (.slice (some ⟨g2,0,none⟩) (rs.length+1) c2):=by
 have hs:=h.bel.size
 have l1:=fun k e=>h.own1.lt k e
 have l2:=fun k e=>h.own2.lt k e
 have s1:ws.heap.size+1≤w2.heap.size:=by have:=hg1.size;rw [e1] at this;simpa using this
 have hb1:Below w.heap.size w w2:=(by rw [e1] at hg1;exact (h.bel.alloc hs _).grown hg1 (by simp;omega) (fun k e=>(l1 k e).1))
 have hg1lt:=hown1.lt g1 rfl
 have hne1:mv.ownBlock≠some g1:=fun e=>by
  rcases hat1 with e'|e'
  ·exact h.ne g1 e' e
  ·have:=(l2 g1 e).2;omega
 obtain ⟨k,hk1,hk2⟩:=h.step ha
 rw [hst] at hk1 hk2
 refine ⟨⟨k,hk1,by simp only at hk2;omega⟩,?_,?_,?_,?_,?_⟩
 ·rw [List.length_append,List.map_append]
  refine z0y hown1 (fun b e=>?_)
  have eb:b=g1:=by simp only [Value.ownBlock,Option.some.injEq] at e;exact e.symm
  subst eb
  rw [hg2.block b (by rw [e2];simp;omega) (fun e=>hne1 e.symm),e2,Below.heap_alloc _ _ _ hg1lt.2]
 ·rw [List.length_append,List.map_append];exact hown2
 ·rw [e2] at hg2;exact (hb1.alloc (by have:=hb1.size;omega) _).grown hg2 (by have:=hb1.size;simp;omega) (fun k e=>(l2 k e).1)
 ·intro b e e'
  have eb:b=g1:=by simp only [Value.ownBlock,Option.some.injEq] at e;exact e.symm
  have eb2:b=g2:=by simp only [Value.ownBlock,Option.some.injEq] at e';exact e'.symm
  rcases hat2 with h2|h2
  ·exact hne1 (by rw [h2,←eb2,eb])
  ·omega
 ·have hn:=(y2p l a ha).1
  rw [hst] at hn
  have:=h.cnt
  simp only at hn
  rw [List.length_append,List.length_singleton]
  omega
structure Mid (w ws w2:World) (rs:List (Int × Nat)) (sv:Value) (x:Int) (g1 c1:Nat):Prop where
 own:w2.ownsRow w.heap.size 3 1 (.slice (some ⟨g1,0,none⟩) (rs.length+1) c1) (rs.length+1) ((rs.map fun r:Int × Nat=>iv r.1)++[iv x])
 grow:(ws.alloc (.cells #[iv x] 3)).grownBy w2 sv.ownBlock
 at_:sv.ownBlock=some g1∨g1=ws.heap.size+1
theorem z3n {ops:Array Oper} {rest:List Oper} {o:Oper} {a:Act} {Q:Exit→Act→World→Prop} {w ws:World} {l:List Int} {p L:Nat} {rs:List (Int × Nat)} {sv mv:Value} (hgd:o.guard=none) (s x:Operand)
  (ho:o.op=.call { callee:=.builtin .append,args:=#[s,x],argTypes:=#[45,45] }) (X:Int) (hs:a.eval s=sv) (hx:a.eval x=.slice (some ⟨ws.heap.size,0,none⟩) 1 1) (hat:RuAt w ws l p rs sv mv) (hL:L=rs.length) (hb:(L+1)*8≤140737488355328)
  (h:∀g1 c1 w2,Mid w ws w2 rs sv X g1 c1→wpList Tryz.prog ops Q rest (a.put o.dst (.slice (some ⟨g1,0,none⟩) (L+1) c1)) w2):wpList Tryz.prog ops Q (o :: rest) a (ws.alloc (.cells #[iv X] 3)):=by
 obtain ⟨i0,hi,hz0,hz1,hz2⟩:=info_parts info3'
 subst hL
 refine wpList_append_lies _ hgd s x 45 ho w.heap.size 3 i0 (.int .i64 0) 1 8 Tryz.underlying45 hi hz0 hz1 hz2 rfl (by decide) sv rs.length (rs.map fun r:Int × Nat=>iv r.1) hs (hat.own1.alloc _) ⟨ws.heap.size,0,none⟩ 1 1 [iv X] hx rfl (z4j _ _) (by intro u hu;simp at hu;subst hu;rfl) (by decide) (by unfold maxLen;omega) hb (by have:=hat.bel.size;simp;omega) (ws.heap.size+1) (by simp) ?_
 intro g1 c1 w2 h1 h2 h3 _
 exact h g1 c1 w2 ⟨h1,h2,h3⟩
theorem z3o {ops:Array Oper} {rest:List Oper} {o:Oper} {a:Act} {Q:Exit→Act→World→Prop} {w ws w2:World} {l:List Int} {p L n y g1 c1:Nat} {rs:List (Int × Nat)} {sv mv:Value} {X Y:Int} (hgd:o.guard=none) (s x:Operand)
  (ho:o.op=.call { callee:=.builtin .append,args:=#[s,x],argTypes:=#[45,45] }) (hs:a.eval s=mv) (hx:a.eval x=.slice (some ⟨w2.heap.size,0,none⟩) 1 1) (hat:RuAt w ws l p rs sv mv) (hm:Mid w ws w2 rs sv X g1 c1) (hp:p<l.length) (hst:z0z l p=(X,y,n)) (hye:(y:Int)=Y) (hL:L=rs.length) (hb:(L+1)*8≤140737488355328)
  (h:∀g2 c2 w4,RuAt w w4 l (p+n) (rs++[(X,y)]) (.slice (some ⟨g1,0,none⟩) (L+1) c1) (.slice (some ⟨g2,0,none⟩) (L+1) c2)→wpList Tryz.prog ops Q rest (a.put o.dst (.slice (some ⟨g2,0,none⟩) (L+1) c2)) w4):wpList Tryz.prog ops Q (o :: rest) a (w2.alloc (.cells #[iv Y] 3)):=by
 obtain ⟨i0,hi,hz0,hz1,hz2⟩:=info_parts info3'
 subst hL hye
 have hs2:w.heap.size≤w2.heap.size:=by have:=hm.grow.size;have:=hat.bel.size;simp at *;omega
 have how:w2.ownsRow w.heap.size 3 1 mv rs.length (rs.map fun r:Int × Nat=>iv (r.2:Int)):=z0y hat.own2 (fun b e=>by
  have hlt:=hat.own2.lt b e
  rw [hm.grow.block b (by simp;omega) (fun e'=>hat.ne b e'.symm e),Below.heap_alloc _ _ _ hlt.2])
 refine wpList_append_lies _ hgd s x 45 ho w.heap.size 3 i0 (.int .i64 0) 1 8 Tryz.underlying45 hi hz0 hz1 hz2 rfl (by decide) mv rs.length (rs.map fun r:Int × Nat=>iv (r.2:Int)) hs (how.alloc _) ⟨w2.heap.size,0,none⟩ 1 1 [iv (y:Int)] hx rfl (z4j _ _) (by intro u hu;simp at hu;subst hu;rfl) (by decide) (by unfold maxLen;omega) hb (by simp;omega) (w2.heap.size+1) (by simp) ?_
 intro g2 c2 w4 h1 h2 h3 _
 exact h g2 c2 w4 (hat.next hp hst rfl hm.own hm.grow hm.at_ rfl h1 h2 h3)
theorem w4z (l:List Int) (v:Value) (w:World) (hr:z0w w v l) (hlen:l.length*8≤140737488351232) :
  Calls Tryz.prog 44 #[v] w fun e w'=>∃sv mv,e=.returned (.tuple #[sv,mv])∧w'.ownsRow w.heap.size 3 1 sv (z3k l).length ((z3k l).map fun r=>iv r.1)∧w'.ownsRow w.heap.size 3 1 mv (z3k l).length ((z3k l).map fun r=>iv (r.2:Int))∧Below w.heap.size w w'∧∀g,sv.ownBlock=some g→mv.ownBlock≠some g:=by
 obtain ⟨i0,hi,hz0,hz1,hz2⟩:=info_parts info3'
 obtain ⟨av,cap,rfl,hcells⟩:=hr
 obtain ⟨N,hN⟩:∃N,N=l.length:=⟨_,rfl⟩
 have HST:=qz (RuAt.start w l)
 have HCELLS:=qz hcells
 rw [←hN] at hlen ⊢
 have HNN:=qz hN
 clear hcells hN
 go_enter Tryz.func44,Tryz.ntmps44
 go_wp2_with fail
 go_loopg [4,5,6] N (fun gk s4 s5 c ws=>∃ (a:Nat) (rs:List (Int × Nat)) (L:Nat) (sv mv:Value),gk=N-a∧a≤N∧sv=s4∧mv=s5∧c=.int .i64 (a:Int)∧Hid (L=rs.length)∧Hid (RuAt w ws l a rs sv mv))
 case atStart=>exact ⟨0,[],0,_,_,by omega,by omega,rfl,rfl,rfl,qz rfl,HST⟩
 case round =>
  obtain ⟨a,rs,L,sv,mv,rfl,haN',rfl,rfl,rfl,HL,hat⟩:=hrel
  clear HST
  have hLa:L≤a:=by have:=(uh hat).cnt;have:=uh HL;omega
  by_cases haN:a<N
  ·have taN:(a:Int)<(N:Int):=by omega
   obtain ⟨b,off,rfl,hc0⟩:=uh HCELLS (by rw [←uh HNN];omega)
   rename World=>wo
   have HC:Hid (∀j,j<N→wo.cell? ⟨b,off+j,none⟩=some (.int .i64 (l.getD j 0))):=qz fun j hj=>z0a (uh hat).bel (hc0 j (by rw [←uh HNN];exact hj))
   have k1:=uh HC a haN
   obtain ⟨V,hV⟩:∃V,V=l.getD a 0:=⟨_,rfl⟩
   rw [←hV] at k1
   have HV:=qz hV
   clear hc0 hV
   go_upto_region 6 with fail
   go_loopg [8] (N-a) (fun gk c ws=>∃n:Nat,gk=N-(a+n)∧a+n≤N∧c=.int .i64 (n:Int)∧ws=wo∧Hid (Cnt l a n V))
   case atStart=>exact ⟨0,by omega,by omega,rfl,rfl,qz (by unfold Cnt;simp)⟩
   case round =>
    obtain ⟨n,rfl,hn,rfl,hws,HCN⟩:=hrel
    subst hws
    rename World=>wo
    by_cases hlt:a+n<N
    ·have tlt:(a:Int)+(n:Int)<(N:Int):=by omega
     have tltb:decide ((a:Int)+(n:Int)<(N:Int))=true:=by simp;omega
     have k2:=uh HC (a+n) hlt
     by_cases heq:l.getD (a+n) 0=V
     ·rw [heq] at k2
      have HCN2:=qz ((uh HCN).next (by rw [←uh HNN];exact hlt) heq)
      clear heq
      go_wp2_with fail
      go_roundg (N-(a+(n+1)))
      case measure=>omega
      case rel=>exact ⟨n+1,rfl,by omega,by go_num,rfl,HCN2⟩
     ·have hcnt:=(uh HCN).stop (by rw [←uh HNN];exact hlt) heq
      have hn1:1≤n:=by have:=y4v l a (by rw [←uh HNN];exact haN);rw [←uh HV,hcnt] at this;exact this
      have qe:(l.getD (a+n) 0 == V)=false:=by simpa using heq
      generalize l.getD (a+n) 0=q at k2 qe heq
      by_cases hv:V=0
      ·subst hv
       have hv:(0:Int)=0:=rfl
       by_cases h138:138<n
       ·have t1:(11:Int)≤(n:Int):=by omega
        have t2:decide ((11:Int)≤(n:Int))=true:=by simp;omega
        have t3:(138:Int)<(n:Int):=by omega
        have HSTEP:Hid (z0z l a=((18:Int),127,138)):=qz (by unfold z0z;rw [←uh HV];rw [hcnt,if_pos ⟨hv,by omega⟩,show min n 138=138 from by omega])
        have hye:((127:Nat):Int)=(127:Int):=by omega
        clear hcnt
        go_wp2_with (at_builtin;first|(refine z3n rfl _ _ rfl (18:Int) (by rfl) (by rfl) (uh hat) (uh HL) (by omega) ?_;intro g1 c1 w2 hm;have HM:=qz hm;clear hm)|(refine z3o rfl _ _ rfl (by rfl) (by rfl) (uh hat) (uh HM) (by rw [←uh HNN];exact haN) (uh HSTEP) hye (uh HL) (by omega) ?_;intro g2 c2 w4 hn;have HN:=qz hn;clear hn))
        go_roundg (N-(a+138))
        case measure=>omega
        case rel=>exact ⟨a+138,rs++[((18:Int),127)],L+1,_,_,rfl,by first|omega|(have:=uh HLE;omega),rfl,rfl,by go_num,qz (by rw [List.length_append,←uh HL];rfl),HN⟩
       ·by_cases h11:11≤n
        ·have t1:(11:Int)≤(n:Int):=by omega
         have t2:decide ((11:Int)≤(n:Int))=true:=by simp;omega
         have t3:¬ (138:Int)<(n:Int):=by omega
         have HSTEP:Hid (z0z l a=((18:Int),(n-11),n)):=qz (by unfold z0z;rw [←uh HV];rw [hcnt,if_pos ⟨hv,by omega⟩,show min n 138=n from by omega])
         have hye:(((n-11):Nat):Int)=((n:Int)-11):=by omega
         clear hcnt
         go_wp2_with (at_builtin;first|(refine z3n rfl _ _ rfl (18:Int) (by rfl) (by rfl) (uh hat) (uh HL) (by omega) ?_;intro g1 c1 w2 hm;have HM:=qz hm;clear hm)|(refine z3o rfl _ _ rfl (by rfl) (by rfl) (uh hat) (uh HM) (by rw [←uh HNN];exact haN) (uh HSTEP) hye (uh HL) (by omega) ?_;intro g2 c2 w4 hn;have HN:=qz hn;clear hn))
         go_roundg (N-(a+n))
         case measure=>omega
         case rel=>exact ⟨a+n,rs++[((18:Int),(n-11))],L+1,_,_,rfl,by first|omega|(have:=uh HLE;omega),rfl,rfl,by go_num,qz (by rw [List.length_append,←uh HL];rfl),HN⟩
        ·by_cases h3:3≤n
         ·have t1:¬ (11:Int)≤(n:Int):=by omega
          have t2:decide ((11:Int)≤(n:Int))=false:=by simp;omega
          have t3:(3:Int)≤(n:Int):=by omega
          have t4:decide ((3:Int)≤(n:Int))=true:=by simp;omega
          have HSTEP:Hid (z0z l a=((17:Int),(n-3),n)):=qz (by unfold z0z;rw [←uh HV];rw [hcnt,if_neg (by omega),if_pos ⟨hv,by omega⟩])
          have hye:(((n-3):Nat):Int)=((n:Int)-3):=by omega
          clear hcnt
          go_wp2_with (at_builtin;first|(refine z3n rfl _ _ rfl (17:Int) (by rfl) (by rfl) (uh hat) (uh HL) (by omega) ?_;intro g1 c1 w2 hm;have HM:=qz hm;clear hm)|(refine z3o rfl _ _ rfl (by rfl) (by rfl) (uh hat) (uh HM) (by rw [←uh HNN];exact haN) (uh HSTEP) hye (uh HL) (by omega) ?_;intro g2 c2 w4 hn;have HN:=qz hn;clear hn))
          go_roundg (N-(a+n))
          case measure=>omega
          case rel=>exact ⟨a+n,rs++[((17:Int),(n-3))],L+1,_,_,rfl,by first|omega|(have:=uh HLE;omega),rfl,rfl,by go_num,qz (by rw [List.length_append,←uh HL];rfl),HN⟩
         ·have t1:¬ (11:Int)≤(n:Int):=by omega
          have t2:decide ((11:Int)≤(n:Int))=false:=by simp;omega
          have t3:¬ (3:Int)≤(n:Int):=by omega
          have t4:decide ((3:Int)≤(n:Int))=false:=by simp;omega
          have HSTEP:Hid (z0z l a=((0:Int),0,1)):=qz (by unfold z0z;rw [←uh HV];rw [hcnt,if_neg (by omega),if_neg (by omega),if_neg (by omega),hv])
          have hye:((0:Nat):Int)=(0:Int):=by omega
          clear hcnt
          go_wp2_with (at_builtin;first|(refine z3n rfl _ _ rfl (0:Int) (by rfl) (by rfl) (uh hat) (uh HL) (by omega) ?_;intro g1 c1 w2 hm;have HM:=qz hm;clear hm)|(refine z3o rfl _ _ rfl (by rfl) (by rfl) (uh hat) (uh HM) (by rw [←uh HNN];exact haN) (uh HSTEP) hye (uh HL) (by omega) ?_;intro g2 c2 w4 hn;have HN:=qz hn;clear hn))
          go_roundg (N-(a+1))
          case measure=>omega
          case rel=>exact ⟨a+1,rs++[((0:Int),0)],L+1,_,_,rfl,by first|omega|(have:=uh HLE;omega),rfl,rfl,by go_num,qz (by rw [List.length_append,←uh HL];rfl),HN⟩
      ·by_cases hp:0<V
       ·by_cases ha0:a=0
        ·have t1:¬V=0:=by omega
         have t2:(V == 0)=false:=by simp;omega
         have p1:(0:Int)<V:=by omega
         have p2:decide ((0:Int)<V)=true:=by simp;omega
         have p3:¬ (0:Int)<(a:Int):=by omega
         have p4:decide ((0:Int)<(a:Int))=false:=by simp;omega
         clear ha0
         have HSTEP:Hid (z0z l a=(V,0,1)):=qz (by unfold z0z;rw [←uh HV];rw [hcnt,if_neg (by omega),if_neg (by omega),if_neg (by omega)])
         have hye:((0:Nat):Int)=(0:Int):=by omega
         clear hcnt
         go_wp2_with (at_builtin;first|(refine z3n rfl _ _ rfl V (by rfl) (by rfl) (uh hat) (uh HL) (by omega) ?_;intro g1 c1 w2 hm;have HM:=qz hm;clear hm)|(refine z3o rfl _ _ rfl (by rfl) (by rfl) (uh hat) (uh HM) (by rw [←uh HNN];exact haN) (uh HSTEP) hye (uh HL) (by omega) ?_;intro g2 c2 w4 hn;have HN:=qz hn;clear hn))
         go_roundg (N-(a+1))
         case measure=>omega
         case rel=>exact ⟨a+1,rs++[(V,0)],L+1,_,_,rfl,by first|omega|(have:=uh HLE;omega),rfl,rfl,by go_num,qz (by rw [List.length_append,←uh HL];rfl),HN⟩
        ·by_cases hpv:¬l.getD (a-1) 0=V
         ·have t1:¬V=0:=by omega
          have t2:(V == 0)=false:=by simp;omega
          have p1:(0:Int)<V:=by omega
          have p2:decide ((0:Int)<V)=true:=by simp;omega
          have p3:(0:Int)<(a:Int):=by omega
          have p4:decide ((0:Int)<(a:Int))=true:=by simp;omega
          have kp:=uh HC (a-1) (by omega)
          have p5:(l.getD (a-1) 0 == V)=false:=by simpa using hpv
          have hpv':=hpv
          generalize l.getD (a-1) 0=pv at kp p5 hpv
          have HSTEP:Hid (z0z l a=(V,0,1)):=qz (by unfold z0z;rw [←uh HV];rw [hcnt,if_neg (by omega),if_neg (by omega),if_neg (fun c=>hpv' c.2.2.1)])
          have hye:((0:Nat):Int)=(0:Int):=by omega
          clear hcnt
          go_wp2_with (at_builtin;first|(refine z3n rfl _ _ rfl V (by rfl) (by rfl) (uh hat) (uh HL) (by omega) ?_;intro g1 c1 w2 hm;have HM:=qz hm;clear hm)|(refine z3o rfl _ _ rfl (by rfl) (by rfl) (uh hat) (uh HM) (by rw [←uh HNN];exact haN) (uh HSTEP) hye (uh HL) (by omega) ?_;intro g2 c2 w4 hn;have HN:=qz hn;clear hn))
          go_roundg (N-(a+1))
          case measure=>omega
          case rel=>exact ⟨a+1,rs++[(V,0)],L+1,_,_,rfl,by first|omega|(have:=uh HLE;omega),rfl,rfl,by go_num,qz (by rw [List.length_append,←uh HL];rfl),HN⟩
         ·by_cases h6:6<n
          ·have t1:¬V=0:=by omega
           have t2:(V == 0)=false:=by simp;omega
           have p1:(0:Int)<V:=by omega
           have p2:decide ((0:Int)<V)=true:=by simp;omega
           have p3:(0:Int)<(a:Int):=by omega
           have p4:decide ((0:Int)<(a:Int))=true:=by simp;omega
           have kp:=uh HC (a-1) (by omega)
           have hpe:l.getD (a-1) 0=V:=Classical.byContradiction fun c=>hpv c
           rw [hpe] at kp
           clear hpv
           have p6:(3:Int)≤(n:Int):=by omega
           have p7:decide ((3:Int)≤(n:Int))=true:=by simp;omega
           have p8:(6:Int)<(n:Int):=by omega
           have HSTEP:Hid (z0z l a=((16:Int),3,6)):=qz (by unfold z0z;rw [←uh HV];rw [hcnt,if_neg (by omega),if_neg (by omega),if_pos ⟨by omega,by omega,hpe,by omega⟩,show min n 6=6 from by omega])
           have hye:((3:Nat):Int)=(3:Int):=by omega
           clear hcnt
           go_wp2_with (at_builtin;first|(refine z3n rfl _ _ rfl (16:Int) (by rfl) (by rfl) (uh hat) (uh HL) (by omega) ?_;intro g1 c1 w2 hm;have HM:=qz hm;clear hm)|(refine z3o rfl _ _ rfl (by rfl) (by rfl) (uh hat) (uh HM) (by rw [←uh HNN];exact haN) (uh HSTEP) hye (uh HL) (by omega) ?_;intro g2 c2 w4 hn;have HN:=qz hn;clear hn))
           go_roundg (N-(a+6))
           case measure=>omega
           case rel=>exact ⟨a+6,rs++[((16:Int),3)],L+1,_,_,rfl,by first|omega|(have:=uh HLE;omega),rfl,rfl,by go_num,qz (by rw [List.length_append,←uh HL];rfl),HN⟩
          ·by_cases h3:3≤n
           ·have t1:¬V=0:=by omega
            have t2:(V == 0)=false:=by simp;omega
            have p1:(0:Int)<V:=by omega
            have p2:decide ((0:Int)<V)=true:=by simp;omega
            have p3:(0:Int)<(a:Int):=by omega
            have p4:decide ((0:Int)<(a:Int))=true:=by simp;omega
            have kp:=uh HC (a-1) (by omega)
            have hpe:l.getD (a-1) 0=V:=Classical.byContradiction fun c=>hpv c
            rw [hpe] at kp
            clear hpv
            have p6:(3:Int)≤(n:Int):=by omega
            have p7:decide ((3:Int)≤(n:Int))=true:=by simp;omega
            have p8:¬ (6:Int)<(n:Int):=by omega
            have HSTEP:Hid (z0z l a=((16:Int),(n-3),n)):=qz (by unfold z0z;rw [←uh HV];rw [hcnt,if_neg (by omega),if_neg (by omega),if_pos ⟨by omega,by omega,hpe,by omega⟩,show min n 6=n from by omega])
            have hye:(((n-3):Nat):Int)=((n:Int)-3):=by omega
            clear hcnt
            go_wp2_with (at_builtin;first|(refine z3n rfl _ _ rfl (16:Int) (by rfl) (by rfl) (uh hat) (uh HL) (by omega) ?_;intro g1 c1 w2 hm;have HM:=qz hm;clear hm)|(refine z3o rfl _ _ rfl (by rfl) (by rfl) (uh hat) (uh HM) (by rw [←uh HNN];exact haN) (uh HSTEP) hye (uh HL) (by omega) ?_;intro g2 c2 w4 hn;have HN:=qz hn;clear hn))
            go_roundg (N-(a+n))
            case measure=>omega
            case rel=>exact ⟨a+n,rs++[((16:Int),(n-3))],L+1,_,_,rfl,by first|omega|(have:=uh HLE;omega),rfl,rfl,by go_num,qz (by rw [List.length_append,←uh HL];rfl),HN⟩
           ·have t1:¬V=0:=by omega
            have t2:(V == 0)=false:=by simp;omega
            have p1:(0:Int)<V:=by omega
            have p2:decide ((0:Int)<V)=true:=by simp;omega
            have p3:(0:Int)<(a:Int):=by omega
            have p4:decide ((0:Int)<(a:Int))=true:=by simp;omega
            have kp:=uh HC (a-1) (by omega)
            have hpe:l.getD (a-1) 0=V:=Classical.byContradiction fun c=>hpv c
            rw [hpe] at kp
            clear hpv
            have p6:¬ (3:Int)≤(n:Int):=by omega
            have p7:decide ((3:Int)≤(n:Int))=false:=by simp;omega
            have HSTEP:Hid (z0z l a=(V,0,1)):=qz (by unfold z0z;rw [←uh HV];rw [hcnt,if_neg (by omega),if_neg (by omega),if_neg (by omega)])
            have hye:((0:Nat):Int)=(0:Int):=by omega
            clear hcnt
            go_wp2_with (at_builtin;first|(refine z3n rfl _ _ rfl V (by rfl) (by rfl) (uh hat) (uh HL) (by omega) ?_;intro g1 c1 w2 hm;have HM:=qz hm;clear hm)|(refine z3o rfl _ _ rfl (by rfl) (by rfl) (uh hat) (uh HM) (by rw [←uh HNN];exact haN) (uh HSTEP) hye (uh HL) (by omega) ?_;intro g2 c2 w4 hn;have HN:=qz hn;clear hn))
            go_roundg (N-(a+1))
            case measure=>omega
            case rel=>exact ⟨a+1,rs++[(V,0)],L+1,_,_,rfl,by first|omega|(have:=uh HLE;omega),rfl,rfl,by go_num,qz (by rw [List.length_append,←uh HL];rfl),HN⟩
       ·have t1:¬V=0:=by omega
        have t2:(V == 0)=false:=by simp;omega
        have p1:¬ (0:Int)<V:=by omega
        have p2:decide ((0:Int)<V)=false:=by simp;omega
        have HSTEP:Hid (z0z l a=(V,0,1)):=qz (by unfold z0z;rw [←uh HV];rw [hcnt,if_neg (by omega),if_neg (by omega),if_neg (by omega)])
        have hye:((0:Nat):Int)=(0:Int):=by omega
        clear hcnt
        go_wp2_with (at_builtin;first|(refine z3n rfl _ _ rfl V (by rfl) (by rfl) (uh hat) (uh HL) (by omega) ?_;intro g1 c1 w2 hm;have HM:=qz hm;clear hm)|(refine z3o rfl _ _ rfl (by rfl) (by rfl) (uh hat) (uh HM) (by rw [←uh HNN];exact haN) (uh HSTEP) hye (uh HL) (by omega) ?_;intro g2 c2 w4 hn;have HN:=qz hn;clear hn))
        go_roundg (N-(a+1))
        case measure=>omega
        case rel=>exact ⟨a+1,rs++[(V,0)],L+1,_,_,rfl,by first|omega|(have:=uh HLE;omega),rfl,rfl,by go_num,qz (by rw [List.length_append,←uh HL];rfl),HN⟩
    ·have hcnt:=(uh HCN).fin (by rw [←uh HNN];omega)
     have hn1:1≤n:=by have:=y4v l a (by rw [←uh HNN];exact haN);rw [←uh HV,hcnt] at this;exact this
     have tlt:¬ (a:Int)+(n:Int)<(N:Int):=by omega
     have tltb:decide ((a:Int)+(n:Int)<(N:Int))=false:=by simp;omega
     by_cases hv:V=0
     ·subst hv
      have hv:(0:Int)=0:=rfl
      by_cases h138:138<n
      ·have t1:(11:Int)≤(n:Int):=by omega
       have t2:decide ((11:Int)≤(n:Int))=true:=by simp;omega
       have t3:(138:Int)<(n:Int):=by omega
       have HSTEP:Hid (z0z l a=((18:Int),127,138)):=qz (by unfold z0z;rw [←uh HV];rw [hcnt,if_pos ⟨hv,by omega⟩,show min n 138=138 from by omega])
       have hye:((127:Nat):Int)=(127:Int):=by omega
       clear hcnt
       go_wp2_with (at_builtin;first|(refine z3n rfl _ _ rfl (18:Int) (by rfl) (by rfl) (uh hat) (uh HL) (by omega) ?_;intro g1 c1 w2 hm;have HM:=qz hm;clear hm)|(refine z3o rfl _ _ rfl (by rfl) (by rfl) (uh hat) (uh HM) (by rw [←uh HNN];exact haN) (uh HSTEP) hye (uh HL) (by omega) ?_;intro g2 c2 w4 hn;have HN:=qz hn;clear hn))
       go_roundg (N-(a+138))
       case measure=>omega
       case rel=>exact ⟨a+138,rs++[((18:Int),127)],L+1,_,_,rfl,by first|omega|(have:=uh HLE;omega),rfl,rfl,by go_num,qz (by rw [List.length_append,←uh HL];rfl),HN⟩
      ·by_cases h11:11≤n
       ·have t1:(11:Int)≤(n:Int):=by omega
        have t2:decide ((11:Int)≤(n:Int))=true:=by simp;omega
        have t3:¬ (138:Int)<(n:Int):=by omega
        have HSTEP:Hid (z0z l a=((18:Int),(n-11),n)):=qz (by unfold z0z;rw [←uh HV];rw [hcnt,if_pos ⟨hv,by omega⟩,show min n 138=n from by omega])
        have hye:(((n-11):Nat):Int)=((n:Int)-11):=by omega
        clear hcnt
        go_wp2_with (at_builtin;first|(refine z3n rfl _ _ rfl (18:Int) (by rfl) (by rfl) (uh hat) (uh HL) (by omega) ?_;intro g1 c1 w2 hm;have HM:=qz hm;clear hm)|(refine z3o rfl _ _ rfl (by rfl) (by rfl) (uh hat) (uh HM) (by rw [←uh HNN];exact haN) (uh HSTEP) hye (uh HL) (by omega) ?_;intro g2 c2 w4 hn;have HN:=qz hn;clear hn))
        go_roundg (N-(a+n))
        case measure=>omega
        case rel=>exact ⟨a+n,rs++[((18:Int),(n-11))],L+1,_,_,rfl,by first|omega|(have:=uh HLE;omega),rfl,rfl,by go_num,qz (by rw [List.length_append,←uh HL];rfl),HN⟩
       ·by_cases h3:3≤n
        ·have t1:¬ (11:Int)≤(n:Int):=by omega
         have t2:decide ((11:Int)≤(n:Int))=false:=by simp;omega
         have t3:(3:Int)≤(n:Int):=by omega
         have t4:decide ((3:Int)≤(n:Int))=true:=by simp;omega
         have HSTEP:Hid (z0z l a=((17:Int),(n-3),n)):=qz (by unfold z0z;rw [←uh HV];rw [hcnt,if_neg (by omega),if_pos ⟨hv,by omega⟩])
         have hye:(((n-3):Nat):Int)=((n:Int)-3):=by omega
         clear hcnt
         go_wp2_with (at_builtin;first|(refine z3n rfl _ _ rfl (17:Int) (by rfl) (by rfl) (uh hat) (uh HL) (by omega) ?_;intro g1 c1 w2 hm;have HM:=qz hm;clear hm)|(refine z3o rfl _ _ rfl (by rfl) (by rfl) (uh hat) (uh HM) (by rw [←uh HNN];exact haN) (uh HSTEP) hye (uh HL) (by omega) ?_;intro g2 c2 w4 hn;have HN:=qz hn;clear hn))
         go_roundg (N-(a+n))
         case measure=>omega
         case rel=>exact ⟨a+n,rs++[((17:Int),(n-3))],L+1,_,_,rfl,by first|omega|(have:=uh HLE;omega),rfl,rfl,by go_num,qz (by rw [List.length_append,←uh HL];rfl),HN⟩
        ·have t1:¬ (11:Int)≤(n:Int):=by omega
         have t2:decide ((11:Int)≤(n:Int))=false:=by simp;omega
         have t3:¬ (3:Int)≤(n:Int):=by omega
         have t4:decide ((3:Int)≤(n:Int))=false:=by simp;omega
         have HSTEP:Hid (z0z l a=((0:Int),0,1)):=qz (by unfold z0z;rw [←uh HV];rw [hcnt,if_neg (by omega),if_neg (by omega),if_neg (by omega),hv])
         have hye:((0:Nat):Int)=(0:Int):=by omega
         clear hcnt
         go_wp2_with (at_builtin;first|(refine z3n rfl _ _ rfl (0:Int) (by rfl) (by rfl) (uh hat) (uh HL) (by omega) ?_;intro g1 c1 w2 hm;have HM:=qz hm;clear hm)|(refine z3o rfl _ _ rfl (by rfl) (by rfl) (uh hat) (uh HM) (by rw [←uh HNN];exact haN) (uh HSTEP) hye (uh HL) (by omega) ?_;intro g2 c2 w4 hn;have HN:=qz hn;clear hn))
         go_roundg (N-(a+1))
         case measure=>omega
         case rel=>exact ⟨a+1,rs++[((0:Int),0)],L+1,_,_,rfl,by first|omega|(have:=uh HLE;omega),rfl,rfl,by go_num,qz (by rw [List.length_append,←uh HL];rfl),HN⟩
     ·by_cases hp:0<V
      ·by_cases ha0:a=0
       ·have t1:¬V=0:=by omega
        have t2:(V == 0)=false:=by simp;omega
        have p1:(0:Int)<V:=by omega
        have p2:decide ((0:Int)<V)=true:=by simp;omega
        have p3:¬ (0:Int)<(a:Int):=by omega
        have p4:decide ((0:Int)<(a:Int))=false:=by simp;omega
        clear ha0
        have HSTEP:Hid (z0z l a=(V,0,1)):=qz (by unfold z0z;rw [←uh HV];rw [hcnt,if_neg (by omega),if_neg (by omega),if_neg (by omega)])
        have hye:((0:Nat):Int)=(0:Int):=by omega
        clear hcnt
        go_wp2_with (at_builtin;first|(refine z3n rfl _ _ rfl V (by rfl) (by rfl) (uh hat) (uh HL) (by omega) ?_;intro g1 c1 w2 hm;have HM:=qz hm;clear hm)|(refine z3o rfl _ _ rfl (by rfl) (by rfl) (uh hat) (uh HM) (by rw [←uh HNN];exact haN) (uh HSTEP) hye (uh HL) (by omega) ?_;intro g2 c2 w4 hn;have HN:=qz hn;clear hn))
        go_roundg (N-(a+1))
        case measure=>omega
        case rel=>exact ⟨a+1,rs++[(V,0)],L+1,_,_,rfl,by first|omega|(have:=uh HLE;omega),rfl,rfl,by go_num,qz (by rw [List.length_append,←uh HL];rfl),HN⟩
       ·by_cases hpv:¬l.getD (a-1) 0=V
        ·have t1:¬V=0:=by omega
         have t2:(V == 0)=false:=by simp;omega
         have p1:(0:Int)<V:=by omega
         have p2:decide ((0:Int)<V)=true:=by simp;omega
         have p3:(0:Int)<(a:Int):=by omega
         have p4:decide ((0:Int)<(a:Int))=true:=by simp;omega
         have kp:=uh HC (a-1) (by omega)
         have p5:(l.getD (a-1) 0 == V)=false:=by simpa using hpv
         have hpv':=hpv
         generalize l.getD (a-1) 0=pv at kp p5 hpv
         have HSTEP:Hid (z0z l a=(V,0,1)):=qz (by unfold z0z;rw [←uh HV];rw [hcnt,if_neg (by omega),if_neg (by omega),if_neg (fun c=>hpv' c.2.2.1)])
         have hye:((0:Nat):Int)=(0:Int):=by omega
         clear hcnt
         go_wp2_with (at_builtin;first|(refine z3n rfl _ _ rfl V (by rfl) (by rfl) (uh hat) (uh HL) (by omega) ?_;intro g1 c1 w2 hm;have HM:=qz hm;clear hm)|(refine z3o rfl _ _ rfl (by rfl) (by rfl) (uh hat) (uh HM) (by rw [←uh HNN];exact haN) (uh HSTEP) hye (uh HL) (by omega) ?_;intro g2 c2 w4 hn;have HN:=qz hn;clear hn))
         go_roundg (N-(a+1))
         case measure=>omega
         case rel=>exact ⟨a+1,rs++[(V,0)],L+1,_,_,rfl,by first|omega|(have:=uh HLE;omega),rfl,rfl,by go_num,qz (by rw [List.length_append,←uh HL];rfl),HN⟩
        ·by_cases h6:6<n
         ·have t1:¬V=0:=by omega
          have t2:(V == 0)=false:=by simp;omega
          have p1:(0:Int)<V:=by omega
          have p2:decide ((0:Int)<V)=true:=by simp;omega
          have p3:(0:Int)<(a:Int):=by omega
          have p4:decide ((0:Int)<(a:Int))=true:=by simp;omega
          have kp:=uh HC (a-1) (by omega)
          have hpe:l.getD (a-1) 0=V:=Classical.byContradiction fun c=>hpv c
          rw [hpe] at kp
          clear hpv
          have p6:(3:Int)≤(n:Int):=by omega
          have p7:decide ((3:Int)≤(n:Int))=true:=by simp;omega
          have p8:(6:Int)<(n:Int):=by omega
          have HSTEP:Hid (z0z l a=((16:Int),3,6)):=qz (by unfold z0z;rw [←uh HV];rw [hcnt,if_neg (by omega),if_neg (by omega),if_pos ⟨by omega,by omega,hpe,by omega⟩,show min n 6=6 from by omega])
          have hye:((3:Nat):Int)=(3:Int):=by omega
          clear hcnt
          go_wp2_with (at_builtin;first|(refine z3n rfl _ _ rfl (16:Int) (by rfl) (by rfl) (uh hat) (uh HL) (by omega) ?_;intro g1 c1 w2 hm;have HM:=qz hm;clear hm)|(refine z3o rfl _ _ rfl (by rfl) (by rfl) (uh hat) (uh HM) (by rw [←uh HNN];exact haN) (uh HSTEP) hye (uh HL) (by omega) ?_;intro g2 c2 w4 hn;have HN:=qz hn;clear hn))
          go_roundg (N-(a+6))
          case measure=>omega
          case rel=>exact ⟨a+6,rs++[((16:Int),3)],L+1,_,_,rfl,by first|omega|(have:=uh HLE;omega),rfl,rfl,by go_num,qz (by rw [List.length_append,←uh HL];rfl),HN⟩
         ·by_cases h3:3≤n
          ·have t1:¬V=0:=by omega
           have t2:(V == 0)=false:=by simp;omega
           have p1:(0:Int)<V:=by omega
           have p2:decide ((0:Int)<V)=true:=by simp;omega
           have p3:(0:Int)<(a:Int):=by omega
           have p4:decide ((0:Int)<(a:Int))=true:=by simp;omega
           have kp:=uh HC (a-1) (by omega)
           have hpe:l.getD (a-1) 0=V:=Classical.byContradiction fun c=>hpv c
           rw [hpe] at kp
           clear hpv
           have p6:(3:Int)≤(n:Int):=by omega
           have p7:decide ((3:Int)≤(n:Int))=true:=by simp;omega
           have p8:¬ (6:Int)<(n:Int):=by omega
           have HSTEP:Hid (z0z l a=((16:Int),(n-3),n)):=qz (by unfold z0z;rw [←uh HV];rw [hcnt,if_neg (by omega),if_neg (by omega),if_pos ⟨by omega,by omega,hpe,by omega⟩,show min n 6=n from by omega])
           have hye:(((n-3):Nat):Int)=((n:Int)-3):=by omega
           clear hcnt
           go_wp2_with (at_builtin;first|(refine z3n rfl _ _ rfl (16:Int) (by rfl) (by rfl) (uh hat) (uh HL) (by omega) ?_;intro g1 c1 w2 hm;have HM:=qz hm;clear hm)|(refine z3o rfl _ _ rfl (by rfl) (by rfl) (uh hat) (uh HM) (by rw [←uh HNN];exact haN) (uh HSTEP) hye (uh HL) (by omega) ?_;intro g2 c2 w4 hn;have HN:=qz hn;clear hn))
           go_roundg (N-(a+n))
           case measure=>omega
           case rel=>exact ⟨a+n,rs++[((16:Int),(n-3))],L+1,_,_,rfl,by first|omega|(have:=uh HLE;omega),rfl,rfl,by go_num,qz (by rw [List.length_append,←uh HL];rfl),HN⟩
          ·have t1:¬V=0:=by omega
           have t2:(V == 0)=false:=by simp;omega
           have p1:(0:Int)<V:=by omega
           have p2:decide ((0:Int)<V)=true:=by simp;omega
           have p3:(0:Int)<(a:Int):=by omega
           have p4:decide ((0:Int)<(a:Int))=true:=by simp;omega
           have kp:=uh HC (a-1) (by omega)
           have hpe:l.getD (a-1) 0=V:=Classical.byContradiction fun c=>hpv c
           rw [hpe] at kp
           clear hpv
           have p6:¬ (3:Int)≤(n:Int):=by omega
           have p7:decide ((3:Int)≤(n:Int))=false:=by simp;omega
           have HSTEP:Hid (z0z l a=(V,0,1)):=qz (by unfold z0z;rw [←uh HV];rw [hcnt,if_neg (by omega),if_neg (by omega),if_neg (by omega)])
           have hye:((0:Nat):Int)=(0:Int):=by omega
           clear hcnt
           go_wp2_with (at_builtin;first|(refine z3n rfl _ _ rfl V (by rfl) (by rfl) (uh hat) (uh HL) (by omega) ?_;intro g1 c1 w2 hm;have HM:=qz hm;clear hm)|(refine z3o rfl _ _ rfl (by rfl) (by rfl) (uh hat) (uh HM) (by rw [←uh HNN];exact haN) (uh HSTEP) hye (uh HL) (by omega) ?_;intro g2 c2 w4 hn;have HN:=qz hn;clear hn))
           go_roundg (N-(a+1))
           case measure=>omega
           case rel=>exact ⟨a+1,rs++[(V,0)],L+1,_,_,rfl,by first|omega|(have:=uh HLE;omega),rfl,rfl,by go_num,qz (by rw [List.length_append,←uh HL];rfl),HN⟩
      ·have t1:¬V=0:=by omega
       have t2:(V == 0)=false:=by simp;omega
       have p1:¬ (0:Int)<V:=by omega
       have p2:decide ((0:Int)<V)=false:=by simp;omega
       have HSTEP:Hid (z0z l a=(V,0,1)):=qz (by unfold z0z;rw [←uh HV];rw [hcnt,if_neg (by omega),if_neg (by omega),if_neg (by omega)])
       have hye:((0:Nat):Int)=(0:Int):=by omega
       clear hcnt
       go_wp2_with (at_builtin;first|(refine z3n rfl _ _ rfl V (by rfl) (by rfl) (uh hat) (uh HL) (by omega) ?_;intro g1 c1 w2 hm;have HM:=qz hm;clear hm)|(refine z3o rfl _ _ rfl (by rfl) (by rfl) (uh hat) (uh HM) (by rw [←uh HNN];exact haN) (uh HSTEP) hye (uh HL) (by omega) ?_;intro g2 c2 w4 hn;have HN:=qz hn;clear hn))
       go_roundg (N-(a+1))
       case measure=>omega
       case rel=>exact ⟨a+1,rs++[(V,0)],L+1,_,_,rfl,by first|omega|(have:=uh HLE;omega),rfl,rfl,by go_num,qz (by rw [List.length_append,←uh HL];rfl),HN⟩
  ·obtain rfl:a=N:=by omega
   have taN:¬ (a:Int)<(a:Int):=by omega
   have HE:Hid (wr.ownsRow w.heap.size 3 1 sv (z3k l).length ((z3k l).map fun r=>iv r.1)∧wr.ownsRow w.heap.size 3 1 mv (z3k l).length ((z3k l).map fun r=>iv (r.2:Int))∧Below w.heap.size w wr∧∀g,sv.ownBlock=some g→mv.ownBlock≠some g):=qz (by
    obtain ⟨k,h1,h2⟩:=(uh hat).on
    have e:z3k l=rs:=by
     rw [h1]
     cases k with
     | zero=>rw [z8z,List.append_nil]
     | succ k=>rw [z8z,if_neg (by rw [←uh HNN];omega),List.append_nil]
    rw [e]
    exact ⟨(uh hat).own1,(uh hat).own2,(uh hat).bel,(uh hat).ne⟩)
   clear hat
   go_wp2_with fail
   go_ret2
   exact ⟨sv,mv,rfl,uh HE⟩
end R8
namespace R8
open Go.RowKit Infl Mth Defl
theorem y5y (last:Bool) (kind:Nat) (w:World) (hk:kind<4) :
  Calls Tryz.prog 34 #[.bool last,.int .i64 (kind:Int)] w fun e w'=>∃lv,e=.returned lv∧St w w' lv ((bitsOf false last.toNat 1++bitsOf false kind 2).map bi):=by
 cases last
 ·go_enter Tryz.func34,Tryz.ntmps34
  go_wp2_with fail
  refine (z4g 0 1 w (by omega) (by omega)).mono ?_
  rintro e w1 ⟨l1,rfl,h1⟩
  have H1:=qz h1
  clear h1
  go_wp2_with fail
  refine (z4g kind 2 w1 (by omega) (by omega)).mono ?_
  rintro e w2 ⟨l2,rfl,h2⟩
  have H2:=qz h2
  clear h2
  go_wp2_with (at_builtin;go_must (refine z1y rfl _ _ rfl l1 l2 _ _ _ (by rfl) (by rfl) ((uh H1).later (uh H2).bel) (uh H2).own (z2p _) (by simp [bitsOf]) ?_;intro lv w3 h3 k3;have H3:=qz h3;clear h3 k3))
  go_ret
  exact ⟨lv,rfl,by rw [List.map_append];exact uh H3⟩
 ·go_enter Tryz.func34,Tryz.ntmps34
  go_wp2_with fail
  refine (z4g 1 1 w (by omega) (by omega)).mono ?_
  rintro e w1 ⟨l1,rfl,h1⟩
  have H1:=qz h1
  clear h1
  go_wp2_with fail
  refine (z4g kind 2 w1 (by omega) (by omega)).mono ?_
  rintro e w2 ⟨l2,rfl,h2⟩
  have H2:=qz h2
  clear h2
  go_wp2_with (at_builtin;go_must (refine z1y rfl _ _ rfl l1 l2 _ _ _ (by rfl) (by rfl) ((uh H1).later (uh H2).bel) (uh H2).own (z2p _) (by simp [bitsOf]) ?_;intro lv w3 h3 k3;have H3:=qz h3;clear h3 k3))
  go_ret
  exact ⟨lv,rfl,by rw [List.map_append];exact uh H3⟩
theorem y6c (l:List Nat) (n:Nat) (a:Option Addr) (cap:Nat) (w:World) (hs:0<l.length→∃b off,a=some ⟨b,off,none⟩∧∀j,j<l.length→w.cell? ⟨b,off+j,none⟩=some (.int .i64 ((l.getD j 0:Nat):Int))) (hc:l.length≤cap) (hl:l.length≤1000000) (hn:n≤1000000) :
  Calls Tryz.prog 43 #[.slice a l.length cap,.int .i64 (n:Int)] w fun e w'=>e=.returned (.slice a (trim n l.length l).length cap)∧w'=w:=by
 obtain ⟨N,hN⟩:∃N,N=l.length:=⟨_,rfl⟩
 have HS:=qz hs
 rw [←hN] at hc hl ⊢
 have HN:=qz hN
 clear hs hN
 go_enter Tryz.func43,Tryz.ntmps43
 go_wp2_with fail
 go_loopg [0] N (fun gk o ws=>∃m:Nat,gk=m∧m≤N∧o=.slice a m cap∧ws=w∧Hid (trim n N l=trim n m (l.take m)))
 case atStart=>exact ⟨N,rfl,by omega,rfl,rfl,qz (by rw [List.take_of_length_le (by rw [uh HN];omega)])⟩
 case round =>
  obtain ⟨m,em,hm,rfl,rfl,HT⟩:=hrel
  subst em
  rename Nat=>m
  by_cases hnm:n<m
  ·obtain ⟨b,off,rfl,hc0⟩:=uh HS (by rw [←uh HN];omega)
   have k1:=hc0 (m-1) (by rw [←uh HN];omega)
   have t1:(n:Int)<(m:Int):=by omega
   have t2:decide ((n:Int)<(m:Int))=true:=by simp;omega
   have HT2:Hid (trim n m (l.take m)=if l.getD (m-1) 0=0 then trim n (m-1) (l.take (m-1)) else l.take m):=qz (by
    have hlm:(l.take m).length=m:=by rw [List.length_take,←uh HN];omega
    have hg:(l.take m).getD (m-1) 0=l.getD (m-1) 0:=by rw [List.getD_eq_getElem?_getD,List.getElem?_take,if_pos (by omega),List.getD_eq_getElem?_getD]
    obtain ⟨p,hp⟩:∃p,m=p+1:=⟨m-1,by omega⟩
    conv=>lhs;rw [show trim n m (l.take m)=trim n (p+1) (l.take m) from by rw [←hp],trim,hlm,hg]
    by_cases c:l.getD (m-1) 0=0
    ·rw [if_pos c,if_pos ⟨hnm,c⟩,List.take_take,show min (m-1) m=m-1 from by omega,show p=m-1 from by omega]
    ·rw [if_neg c,if_neg (fun x=>c x.2)])
   clear hc0
   by_cases h0:l.getD (m-1) 0=0
   ·rw [h0] at k1
    have HT3:Hid (trim n N l=trim n (m-1) (l.take (m-1))):=qz (by rw [uh HT,uh HT2,if_pos h0])
    clear h0
    go_wp2_with fail
    go_roundg (m-1)
    case measure=>omega
    case rel=>exact ⟨m-1,rfl,by omega,by go_num,rfl,HT3⟩
   ·have HT3:Hid ((trim n N l).length=m):=qz (by rw [uh HT,uh HT2,if_neg h0,List.length_take,←uh HN];omega)
    generalize l.getD (m-1) 0=q at k1 h0
    have tq:((q:Int) == 0)=false:=by simp;omega
    go_wp2_with fail
    go_ret
    exact ⟨by rw [uh HT3];rfl,rfl⟩
  ·have t1:¬ (n:Int)<(m:Int):=by omega
   have t2:decide ((n:Int)<(m:Int))=false:=by simp;omega
   have HT3:Hid ((trim n N l).length=m):=qz (by
    have hlm:(l.take m).length=m:=by rw [List.length_take,←uh HN];omega
    rw [uh HT]
    cases m with
    | zero=>rw [trim];exact hlm
    | succ p=>rw [trim,if_neg (by rw [hlm];omega)];exact hlm)
   go_wp2_with fail
   go_ret
   exact ⟨by rw [uh HT3];rfl,rfl⟩
end R8
end Go.Proofs.YtabeanealkopbaaGreat
