/- Texts of one proof, one behind the other: Infl, R11RunM, X10SufM, X10SufN, BzA, BzB, BzC, BzD, BzE, R11Ba, B4Math, B4Own, B4Aid, B4Fill, B4Put, B4Canon, B4Words, B4Lens, B4Count, B4Lay. -/
import Derived.KernelRfl
import Derived.Test.YtljdhaepkhhnlaaGreatProg
import Derived.BigQuiet
import Derived.Deep.AppendLies
import Derived.Deep.DeepCutAuto
import Derived.Deep.DeepMust
import Derived.Deep.DrawnRows
import Derived.Deep.LoopGhost
import Derived.Deep.QuietTactic
import Derived.Deep.WholeRow
import Derived.Handy
import Derived.Laws.AppendOwnNone
import Derived.Laws.BytesArg
import Derived.Laws.CopyOwn
import Derived.Laws.Rows
import Derived.Lib.SmallJoins
import Derived.Maps.AppendAt
import Derived.OwnWalk
import Derived.WalkKit
import Derived.WalkMore
import Derived.WalkSpells
import Derived.Deep.CutBlock
import Derived.Test.YtljdhaepkhhnlaaGreatRows
import Derived.Laws.BitsAllLaws
import Derived.Deep.RegionHeld3
import Derived.StillTailTactics
import Derived.Laws.IdiomStrings

set_option linter.unusedVariables false
set_option maxRecDepth 100000
set_option maxHeartbeats 24000000
namespace Go.Proofs.YtljdhaepkhhnlaaGreat
theorem dN {P : Program} {md : Region.Mode} {ops : Array Oper} {Q : Exit → Act → World → Prop} {S : World → Prop} {listed : Array Bool} {a : Act} {w : World} {fuel : Nat} (h : Q .normal a w) (hr : Region.ready md ops listed = [] := by kernel_rfl) : wpAnyH P md ops (NoPanic Q) S fuel listed a w := wpAnyH_done hr (NoPanic.normal h) fuel
theorem sA {α : Type _} (a b : α) (l : List α) : (a :: l).set 0 b = b :: l := rfl
theorem sB {α : Type _} (a b : α) (l : List α) (n : Nat) : (a :: l).set (n + 1) b = a :: l.set n b := rfl
end Go.Proofs.YtljdhaepkhhnlaaGreat
namespace Go.Proofs.YtljdhaepkhhnlaaGreat
namespace Infl
def cp (d:Nat):Nat→List Nat→List Nat
 | 0,P=>P
 | k+1,P=>cp d k P++[(cp d k P).getD ((cp d k P).length-d) 0]
structure In where
 f:Nat→Bool
 k:Nat
def In.m (I:In):Nat:=8*I.k
def Agree (I J:In) (n:Nat):Prop:=∀i,i<n→J.f i=I.f i
theorem Agree.mono {I J:In} {n k:Nat} (h:Agree I J n) (hk:k≤n):Agree I J k:=fun i hi=>h i (by omega)
inductive Res (α:Type) where
 | ok (x:α) (at':Nat)
 | bad (e:Nat)
 | more
abbrev Rd (α:Type):=In→Nat→Res α
def Rd.pure {α:Type} (x:α):Rd α:=fun _ p=>.ok x p
def Rd.fail {α:Type} (e:Nat):Rd α:=fun _ _=>.bad e
def Rd.bind {α β:Type} (r:Rd α) (k:α→Rd β):Rd β:=fun I p=>match r I p with
 | .ok x q=>k x I q
 | .bad e=>.bad e
 | .more=>.more
def Rd.stuck {α:Type}:Rd α:=fun _ _=>.more
structure Loc {α:Type} (r:Rd α):Prop where
 le:∀I p x q,p≤I.m→r I p=.ok x q→p≤q∧q≤I.m
 ext:∀I J p x q,p≤I.m→r I p=.ok x q→Agree I J q→q≤J.m→r J p=.ok x q
 cut:∀I J p x q,p≤I.m→r I p=.ok x q→Agree I J J.m→p≤J.m→J.m<q→r J p=.bad 10
 err:∀I J p e,p≤I.m→r I p=.bad e→e≠10→Agree I J I.m→I.m≤J.m→r J p=.bad e
theorem Loc.pure {α:Type} (x:α):Loc (Rd.pure x) :=
 ⟨fun I p y q hp h=>by simp only [Rd.pure,Res.ok.injEq] at h;omega,fun I J p y q hp h _ _=>h,fun I J p y q hp h _ h1 h2=>by simp only [Rd.pure,Res.ok.injEq] at h;omega,fun I J p e hp h _ _ _=>by cases h⟩
theorem Loc.fail {α:Type} (e:Nat):Loc (Rd.fail (α:=α) e) :=
 ⟨fun I p y q hp h=>by simp [Rd.fail] at h,fun I J p y q hp h _ _=>by simp [Rd.fail] at h,fun I J p y q hp h _ _ _=>by simp [Rd.fail] at h,fun I J p e hp h _ _ _=>h⟩
theorem Loc.stuck {α:Type}:Loc (Rd.stuck (α:=α)) :=
 ⟨fun I p y q hp h=>by simp [Rd.stuck] at h,fun I J p y q hp h _ _=>by simp [Rd.stuck] at h,fun I J p y q hp h _ _ _=>by simp [Rd.stuck] at h,fun I J p e hp h _ _ _=>by cases h⟩
theorem bind_ok {α β:Type} {r:Rd α} {k:α→Rd β} {I:In} {p:Nat} {y:β} {q:Nat} (h:r.bind k I p=.ok y q):∃x o,r I p=.ok x o∧k x I o=.ok y q:=by
 unfold Rd.bind at h
 cases hr:r I p with
 | ok x o=>rw [hr] at h;exact ⟨x,o,rfl,h⟩
 | bad e=>rw [hr] at h;cases h
 | more=>rw [hr] at h;cases h
theorem z0j {α β:Type} {r:Rd α} {k:α→Rd β} {I:In} {p o:Nat} {x:α} (h:r I p=.ok x o):r.bind k I p=k x I o:=by unfold Rd.bind;rw [h]
theorem y0u {α β:Type} {r:Rd α} {k:α→Rd β} {I:In} {p e:Nat} (h:r I p=.bad e):r.bind k I p=.bad e:=by unfold Rd.bind;rw [h]
theorem Loc.bind {α β:Type} {r:Rd α} {k:α→Rd β} (h:Loc r) (hk:∀x,Loc (k x)):Loc (r.bind k):=by
 refine ⟨fun I p y q hp e=>?_,fun I J p y q hp e ha hq=>?_,fun I J p y q hp e ha hpj hq=>?_,fun I J p e hp h0 h10 ha hm=>?_⟩
 ·obtain ⟨x,o,h1,h2⟩:=bind_ok e
  obtain ⟨l1,l2⟩:=h.le I p x o hp h1
  obtain ⟨l3,l4⟩:=(hk x).le I o y q l2 h2
  omega
 ·obtain ⟨x,o,h1,h2⟩:=bind_ok e
  obtain ⟨l1,l2⟩:=h.le I p x o hp h1
  obtain ⟨l3,l4⟩:=(hk x).le I o y q l2 h2
  rw [z0j (h.ext I J p x o hp h1 (ha.mono l3) (by omega))]
  exact (hk x).ext I J o y q l2 h2 ha hq
 ·obtain ⟨x,o,h1,h2⟩:=bind_ok e
  obtain ⟨l1,l2⟩:=h.le I p x o hp h1
  by_cases ho:J.m<o
  ·exact y0u (h.cut I J p x o hp h1 ha hpj ho)
  ·rw [z0j (h.ext I J p x o hp h1 (ha.mono (by omega)) (by omega))]
   exact (hk x).cut I J o y q l2 h2 ha (by omega) hq
 ·cases hr:r I p with
  | ok x o =>
   rw [z0j hr] at h0
   obtain ⟨l1,l2⟩:=h.le I p x o hp hr
   rw [z0j (h.ext I J p x o hp hr (ha.mono l2) (by omega))]
   exact (hk x).err I J o e l2 h0 h10 ha hm
  | bad e' =>
   rw [y0u hr] at h0
   injection h0 with h0
   subst h0
   exact y0u (h.err I J p e' hp hr h10 ha hm)
  | more=>simp [Rd.bind,hr] at h0
def num (f:Nat→Bool) (p:Nat):Nat→Nat
 | 0=>0
 | n+1=>num f p n+(f (p+n)).toNat*2^n
theorem y6r {f g:Nat→Bool} {p:Nat}:∀n,(∀i,i<p+n→g i=f i)→num g p n=num f p n
 | 0,_=>rfl
 | n+1,h=>by rw [num,num,y6r n (fun i hi=>h i (by omega)),h (p+n) (by omega)]
def get (n:Nat):Rd Nat:=fun I p=>if p+n≤I.m then .ok (num I.f p n) (p+n) else .bad 10
theorem Loc.get (n:Nat):Loc (get n):=by
 refine ⟨fun I p x q hp h=>?_,fun I J p x q hp h ha hq=>?_,fun I J p x q hp h ha hpj hq=>?_,fun I J p e hp h h10 ha hm=>?_⟩
 ·unfold Infl.get at h
  split at h
  ·simp only [Res.ok.injEq] at h;omega
  ·cases h
 ·unfold Infl.get at h ⊢
  split at h
  ·simp only [Res.ok.injEq] at h
   obtain ⟨rfl,rfl⟩:=h
   rw [if_pos hq,y6r n (fun i hi=>ha i hi)]
  ·cases h
 ·unfold Infl.get at h ⊢
  split at h
  ·simp only [Res.ok.injEq] at h
   rw [if_neg (by omega)]
  ·cases h
 ·unfold Infl.get at h
  split at h
  ·cases h
  ·injection h with h;omega
def align:Rd Unit:=fun _ p=>.ok () ((p+7)/8*8)
theorem Loc.align:Loc align:=by
 refine ⟨fun I p x q hp h=>?_,fun I J p x q hp h ha hq=>?_,fun I J p x q hp h ha hpj hq=>?_,fun I J p e hp h h10 ha hm=>?_⟩
 ·simp only [Infl.align,Res.ok.injEq] at h
  unfold In.m at *
  omega
 ·simp only [Infl.align,Res.ok.injEq] at h ⊢
  exact h
 ·simp only [Infl.align,Res.ok.injEq] at h
  unfold In.m at *
  omega
 ·cases h
structure GL (g:List Nat→(Nat→Bool)→Nat→Nat × Nat × Nat):Prop where
 le:∀ls f m s n e,g ls f m=(s,n,e)→n≤m
 loc:∀ls f m s n f' m',g ls f m=(s,n,0)→n≤m'→(∀i,i<n→f' i=f i)→g ls f' m'=(s,n,0)
 cut:∀ls f m s n f' m',g ls f m=(s,n,0)→m'<n→(∀i,i<m'→f' i=f i)→(g ls f' m').2.2=10
 err:∀ls f m s n e f' m',g ls f m=(s,n,e)→e≠10→m≤m'→(∀i,i<m→f' i=f i)→g ls f' m'=(s,n,e)
section
variable (g:List Nat→(Nat→Bool)→Nat→Nat × Nat × Nat) (ce:List Nat→Nat→Bool→Nat)
def word (ls:List Nat):Rd Nat:=fun I p=>match g ls (fun i=>I.f (p+i)) (I.m-p) with
 | (s,n,0)=>.ok s (p+n)
 | (_,_,e+1)=>.bad (e+1)
theorem z5y {ls:List Nat} {I:In} {p s q:Nat} (h:word g ls I p=.ok s q):∃n,g ls (fun i=>I.f (p+i)) (I.m-p)=(s,n,0)∧q=p+n:=by
 unfold word at h
 split at h
 ·rename_i s' n' he
  simp only [Res.ok.injEq] at h
  obtain ⟨rfl,rfl⟩:=h
  exact ⟨_,he,rfl⟩
 ·cases h
theorem Loc.word (hg:GL g) (ls:List Nat):Loc (word g ls):=by
 refine ⟨fun I p x q hp h=>?_,fun I J p x q hp h ha hq=>?_,fun I J p x q hp h ha hpj hq=>?_,fun I J p e hp h h10 ha hm=>?_⟩
 ·obtain ⟨n,h1,rfl⟩:=z5y g h
  have:=hg.le _ _ _ _ _ _ h1
  omega
 ·obtain ⟨n,h1,rfl⟩:=z5y g h
  have h2:=hg.loc _ _ _ _ _ (fun i=>J.f (p+i)) (J.m-p) h1 (by omega) (fun i hi=>ha (p+i) (by omega))
  unfold Infl.word
  rw [h2]
 ·obtain ⟨n,h1,rfl⟩:=z5y g h
  have h2:=hg.cut _ _ _ _ _ (fun i=>J.f (p+i)) (J.m-p) h1 (by omega) (fun i hi=>ha (p+i) (by omega))
  unfold Infl.word
  rcases hr:g ls (fun i=>J.f (p+i)) (J.m-p) with ⟨s',n',e'⟩
  rw [hr] at h2
  simp only at h2
  subst h2
  rfl
 ·rcases hr:g ls (fun i=>I.f (p+i)) (I.m-p) with ⟨s',n',e'⟩
  unfold Infl.word at h
  rw [hr] at h
  cases e' with
  | zero=>cases h
  | succ e' =>
   injection h with h
   have h2:=hg.err _ _ _ _ _ _ (fun i=>J.f (p+i)) (J.m-p) hr (by omega) (by omega) (fun i hi=>ha (p+i) (by omega))
   unfold Infl.word
   rw [h2,←h]
def lenOf (s:Nat):Nat × Nat:=if s-257<8 then (3+(s-257),0) else if s-257=28 then (258,0) else (3+(4+(s-257)%4)*2^((s-257)/4-1),(s-257)/4-1)
def x0i (d:Nat):Nat × Nat:=if d<4 then (1+d,0) else (1+(2+d%2)*2^(d/2-1),d/2-1)
def tok (lits dists:List Nat) (most:Nat) (out:List Nat):Rd (Option (List Nat)) :=
 (word g lits).bind fun s =>
  if s=256 then Rd.pure none
  else if s<256 then (if most≤out.length then Rd.fail 3 else Rd.pure (some (out++[s])))
  else if 285<s then Rd.fail 11
  else (get (lenOf s).2).bind fun x=>(word g dists).bind fun d =>
   if 29<d then Rd.fail 11 else (get (x0i d).2).bind fun y =>
    if out.length<(x0i d).1+y then Rd.fail 14
    else if most<out.length+((lenOf s).1+x) then Rd.fail 3
    else Rd.pure (some (cp ((x0i d).1+y) ((lenOf s).1+x) out))
def toks (lits dists:List Nat) (most:Nat):Nat→List Nat→Rd (List Nat)
 | 0,_=>Rd.stuck
 | k+1,out=>(tok g lits dists most out).bind fun o=>match o with
  | none=>Rd.pure out
  | some out'=>toks lits dists most k out'
def bytes:Nat→List Nat→Rd (List Nat)
 | 0,out=>Rd.pure out
 | n+1,out=>(get 8).bind fun b=>bytes n (out++[b])
def stored (most:Nat) (out:List Nat):Rd (List Nat) :=
 align.bind fun _=>(get 16).bind fun n=>(get 16).bind fun m =>
  if m≠65535-n then Rd.fail 11 else if most<out.length+n then Rd.fail 3 else bytes n out
def threes:Nat→List Nat→Rd (List Nat)
 | 0,l=>Rd.pure l
 | k+1,l=>(get 3).bind fun v=>threes k (l++[v])
def order:List Nat:=[16,17,18,0,8,7,9,6,10,5,11,4,12,3,13,2,14,1,15]
def w1p (vs:List Nat):List Nat:=(List.range 19).map fun j=>vs.getD (order.idxOf j) 0
def lens (own:List Nat) (tot:Nat):Nat→List Nat→Rd (List Nat)
 | 0,all=>if tot≤all.length then Rd.pure all else Rd.stuck
 | k+1,all=>if tot≤all.length then Rd.pure all else
  (word g own).bind fun s =>
   if s=16 then (get 2).bind fun x=>if all=[] then Rd.fail 11 else if tot<all.length+(3+x) then Rd.fail 11 else lens own tot k (all++List.replicate (3+x) (all.getD (all.length-1) 0))
   else if s=17 then (get 3).bind fun x=>if tot<all.length+(3+x) then Rd.fail 11 else lens own tot k (all++List.replicate (3+x) 0)
   else if s=18 then (get 7).bind fun x=>if tot<all.length+(11+x) then Rd.fail 11 else lens own tot k (all++List.replicate (11+x) 0)
   else lens own tot k (all++[s])
def okE {α:Type} (e:Nat) (r:Rd α):Rd α:=if e=0 then r else Rd.fail e
def told (most fuel:Nat) (out:List Nat):Rd (List Nat) :=
 (get 5).bind fun l=>(get 5).bind fun d=>(get 4).bind fun k =>
  if 286<l+257∨30<d+1 then Rd.fail 11
  else (threes (k+4) []).bind fun vs=>okE (ce (w1p vs) 7 false) ((lens g (w1p vs) (l+257+(d+1)) (l+257+(d+1)) []).bind fun all =>
   if all.getD 256 0=0 then Rd.fail 11
   else okE (ce (all.take (l+257)) 15 true) (okE (ce (all.drop (l+257)) 15 true) (toks g (all.take (l+257)) (all.drop (l+257)) most fuel out)))
def w0x:List Nat:=(List.range 288).map fun i=>if 144≤i∧i<256 then 9 else if 256≤i∧i<280 then 7 else 8
def w0w:List Nat:=List.replicate 32 5
def block (most fuel:Nat) (out:List Nat):Rd (Nat × List Nat) :=
 (get 1).bind fun last=>(get 2).bind fun kind =>
  (if kind=0 then stored most out else if kind=1 then toks g w0x w0w most fuel out else if kind=2 then told g ce most fuel out else Rd.fail 16).bind fun o=>Rd.pure (last,o)
theorem Loc.ite {α:Type} {c:Prop} [Decidable c] {r r':Rd α} (h:Loc r) (h':Loc r'):Loc (if c then r else r'):=by
 split
 ·exact h
 ·exact h'
variable {g ce}
theorem Loc.tok (hg:GL g) (lits dists:List Nat) (most:Nat) (out:List Nat):Loc (tok g lits dists most out) :=
 (Loc.word g hg lits).bind fun s=>.ite (.pure _) (.ite (.ite (.fail _) (.pure _)) (.ite (.fail _) ((Loc.get _).bind fun x=>(Loc.word g hg dists).bind fun d=>.ite (.fail _) ((Loc.get _).bind fun y=>.ite (.fail _) (.ite (.fail _) (.pure _))))))
theorem Loc.toks (hg:GL g) (lits dists:List Nat) (most:Nat):∀k out,Loc (toks g lits dists most k out)
 | 0,_=>.stuck
 | k+1,out=>(Loc.tok hg lits dists most out).bind fun o=>match o with
  | none=>.pure _
  | some o'=>Loc.toks hg lits dists most k o'
theorem Loc.bytes:∀n out,Loc (bytes n out)
 | 0,out=>.pure _
 | n+1,out=>(Loc.get 8).bind fun b=>Loc.bytes n _
theorem Loc.stored (most:Nat) (out:List Nat):Loc (stored most out) :=
 Loc.align.bind fun _=>(Loc.get 16).bind fun n=>(Loc.get 16).bind fun m=>.ite (.fail _) (.ite (.fail _) (Loc.bytes n out))
theorem Loc.threes:∀k l,Loc (threes k l)
 | 0,l=>.pure _
 | k+1,l=>(Loc.get 3).bind fun v=>Loc.threes k _
theorem Loc.lens (hg:GL g) (own:List Nat) (tot:Nat):∀k all,Loc (lens g own tot k all)
 | 0,all=>.ite (.pure _) .stuck
 | k+1,all=>.ite (.pure _) ((Loc.word g hg own).bind fun s=>.ite ((Loc.get 2).bind fun x=>.ite (.fail _) (.ite (.fail _) (Loc.lens hg own tot k _)))
   (.ite ((Loc.get 3).bind fun x=>.ite (.fail _) (Loc.lens hg own tot k _)) (.ite ((Loc.get 7).bind fun x=>.ite (.fail _) (Loc.lens hg own tot k _)) (Loc.lens hg own tot k _))))
theorem Loc.okE {α:Type} (e:Nat) {r:Rd α} (h:Loc r):Loc (okE e r):=.ite h (.fail _)
theorem Loc.told (hg:GL g) (most fuel:Nat) (out:List Nat):Loc (told g ce most fuel out) :=
 (Loc.get 5).bind fun l=>(Loc.get 5).bind fun d=>(Loc.get 4).bind fun k=>.ite (.fail _) ((Loc.threes _ _).bind fun vs=>.okE _ ((Loc.lens hg _ _ _ _).bind fun all=>.ite (.fail _) (.okE _ (.okE _ (Loc.toks hg _ _ most fuel out)))))
theorem Loc.block (hg:GL g) (most fuel:Nat) (out:List Nat):Loc (block g ce most fuel out) :=
 (Loc.get 1).bind fun last=>(Loc.get 2).bind fun kind=>(Loc.ite (Loc.stored most out) (.ite (Loc.toks hg _ _ most fuel out) (.ite (Loc.told hg most fuel out) (.fail _)))).bind fun o=>.pure _
end
end Infl
namespace R11.Runs
def lead (c:Nat):Nat→List Nat→Nat
 | 0,_=>0
 | _+1,[]=>0
 | m+1,x :: l=>if x=c then lead c m l+1 else 0
theorem z4p (c:Nat):∀m l,lead c m l≤m∧lead c m l≤l.length
 | 0,_=>by simp [lead]
 | _+1,[]=>by simp [lead]
 | m+1,x :: l=>by
  have:=z4p c m l
  unfold lead
  split
  ·simp;omega
  ·simp
theorem y1c (c:Nat):∀m l,∀j,j<lead c m l→l.getD j 0=c
 | 0,_,j,h=>by simp [lead] at h
 | _+1,[],j,h=>by simp [lead] at h
 | m+1,x :: l,j,h=>by
  unfold lead at h
  split at h
  ·rename_i hx
   cases j with
   | zero=>simpa using hx
   | succ j=>simpa using y1c c m l j (by omega)
  ·omega
theorem z7y (c:Nat):∀m l,lead c m l<m→lead c m l<l.length→l.getD (lead c m l) 0≠c
 | 0,_,h,_=>by simp [lead] at h
 | _+1,[],_,h=>by simp at h
 | m+1,x :: l,h1,h2=>by
  unfold lead at h1 h2 ⊢
  split at h1
  ·rename_i hx
   rw [if_pos hx] at h2 ⊢
   simpa using z7y c m l (by omega) (by simpa using h2)
  ·rename_i hx
   rw [if_neg hx]
   simpa using hx
theorem x1c (c:Nat):∀m l k,k≤m→k≤l.length→(∀j,j<k→l.getD j 0=c)→(k=m∨k=l.length∨l.getD k 0≠c)→lead c m l=k
 | 0,_,k,h,_,_,_=>by simp [lead];omega
 | _+1,[],k,_,h,_,_=>by simp at h;simp [lead,h]
 | m+1,x :: l,k,h1,h2,h3,h4=>by
  unfold lead
  cases k with
  | zero =>
   rw [if_neg]
   intro e
   rcases h4 with h|h|h
   ·omega
   ·simp at h
   ·exact h (by simpa using e)
  | succ k =>
   rw [if_pos (by simpa using h3 0 (by omega)),x1c c m l k (by omega) (by simpa using h2) (fun j hj=>by simpa using h3 (j+1) (by omega)) (by
    rcases h4 with h|h|h
    ·exact .inl (by omega)
    ·exact .inr (.inl (by simpa using h))
    ·exact .inr (.inr (by simpa using h)))]
theorem y3c (c:Nat) (m:Nat) (l:List Nat):l=List.replicate (lead c m l) c++l.drop (lead c m l):=by
 have h:=z4p c m l
 conv=>lhs;rw [←List.take_append_drop (lead c m l) l]
 congr 1
 refine List.ext_getElem? fun j=>?_
 by_cases hj:j<lead c m l
 ·rw [List.getElem?_take,if_pos hj,List.getElem?_replicate,if_pos hj]
  have:=y1c c m l j hj
  rw [List.getD_eq_getElem?_getD,List.getElem?_eq_getElem (by omega)] at this
  rw [List.getElem?_eq_getElem (by omega)]
  simpa using this
 ·rw [List.getElem?_eq_none (by simp;omega),List.getElem?_eq_none (by simp;omega)]
def piece (c n:Nat):List Nat:=if n<4 then List.replicate n c else List.replicate 4 c++[n-4]
def z6s:Nat→List Nat→List Nat
 | 0,_=>[]
 | _+1,[]=>[]
 | f+1,c :: l=>piece c (lead c 258 l+1)++z6s f (l.drop (lead c 258 l))
def z0p (b:List Nat):List Nat:=z6s b.length b
theorem y0c:∀f g l,l.length≤f→l.length≤g→z6s f l=z6s g l
 | 0,g,l,h,_=>by
  obtain rfl:l=[]:=List.eq_nil_of_length_eq_zero (by omega)
  cases g<;>rfl
 | f+1,g,[],_,_=>by cases g<;>rfl
 | f+1,0,c :: l,_,h=>by simp at h
 | f+1,g+1,c :: l,h1,h2=>by
  unfold z6s
  simp at h1 h2
  rw [y0c f g _ (by simp;omega) (by simp;omega)]
theorem z3c (c:Nat) (l:List Nat):z0p (c :: l)=piece c (lead c 258 l+1)++z0p (l.drop (lead c 258 l)):=by
 unfold z0p
 show z6s (l.length+1) (c :: l)=_
 rw [z6s,y0c l.length (l.drop (lead c 258 l)).length _ (by simp) (Nat.le_refl _)]
theorem x2f (c n:Nat):(piece c n).length≤n+n/4:=by
 unfold piece
 split
 ·simp
 ·simp;omega
theorem y3p:∀ (k:Nat) (b:List Nat),b.length≤k→(z0p b).length≤b.length+b.length/4
 | 0,b,h=>by
  obtain rfl:b=[]:=List.eq_nil_of_length_eq_zero (by omega)
  simp [z0p,z6s]
 | k+1,[],_=>by simp [z0p,z6s]
 | k+1,c :: l,h=>by
  have h1:=z4p c 258 l
  have h2:=y3p k (l.drop (lead c 258 l)) (by simp at h ⊢;omega)
  have h3:=x2f c (lead c 258 l+1)
  rw [z3c,List.length_append]
  rw [List.length_drop] at h2
  simp only [List.length_cons] at h ⊢
  omega
def unp (most:Int):List Nat→Nat→Nat→List Nat→List Nat × Nat
 | [],like,_,out=>if like=4 then ([],10) else (out,0)
 | c :: r,like,last,out =>
  if like=4 then (if most-(out.length:Int)<(c:Int) then ([],3) else unp most r 0 c (out++List.replicate c last))
  else if (out.length:Int)=most then ([],3)
  else unp most r (if 0<like∧c=last then like+1 else 1) c (out++[c])
def z2v (b:List Nat) (most:Int):List Nat × Nat:=if most<0 then ([],2) else unp most b 0 0 []
theorem y7n (most:Int) (c:Nat) (rest:List Nat):∀ (k j:Nat) (out:List Nat),1≤j→j+k≤4→(out.length:Int)+k≤most→unp most (List.replicate k c++rest) j c out=unp most rest (j+k) c (out++List.replicate k c)
 | 0,j,out,_,_,_=>by simp
 | k+1,j,out,h1,h2,h3=>by
  rw [List.replicate_succ,List.cons_append,unp,if_neg (by omega),if_neg (by omega),if_pos ⟨by omega,rfl⟩,y7n most c rest k (j+1) (out++[c]) (by omega) (by omega) (by simp;omega)]
  rw [show j+1+k=j+(k+1) by omega,List.append_assoc]
  rfl
theorem y4m (most:Int) (c:Nat) (rest:List Nat) (k like last:Nat) (out:List Nat) (hk:1≤k∧k≤4) (hl:like<4) (hs:like=0∨last≠c) (hm:(out.length:Int)+k≤most):unp most (List.replicate k c++rest) like last out=unp most rest k c (out++List.replicate k c):=by
 obtain ⟨k,rfl⟩:∃j,k=j+1:=⟨k-1,by omega⟩
 rw [List.replicate_succ,List.cons_append,unp,if_neg (by omega),if_neg (by omega),if_neg (by rintro ⟨h1,h2⟩;rcases hs with h|h;omega;exact h h2.symm)]
 rw [y7n most c rest k 1 (out++[c]) (by omega) (by omega) (by simp;omega),show 1+k=k+1 by omega,List.append_assoc]
 rfl
theorem y2g (most:Int):∀ (f:Nat) (l:List Nat) (like last:Nat) (out:List Nat),l.length≤f→like<4→(like=0∨∀c r,l=c :: r→last≠c)→(out.length:Int)+l.length≤most→unp most (z0p l) like last out=(out++l,0)
 | f,[],like,last,out,_,h1,_,_=>by
  show unp most [] like last out=_
  rw [unp,if_neg (by omega),List.append_nil]
 | 0,c :: l,_,_,_,h,_,_,_=>by simp at h
 | f+1,c :: l,like,last,out,h,h1,h2,h3=>by
  have hle:=z4p c 258 l
  have hst:=z7y c 258 l
  have hlt:=y3c c 258 l
  obtain ⟨n,hn⟩:∃n,n=lead c 258 l:=⟨_,rfl⟩
  rw [z3c]
  rw [←hn] at hle hst hlt ⊢
  have hs:like=0∨last≠c:=by
   rcases h2 with h2|h2
   ·exact .inl h2
   ·exact .inr (h2 c l rfl)
  simp only [List.length_cons] at h h3
  have hout:out++(c :: l)=out++List.replicate (n+1) c++l.drop n:=by
   rw [List.append_assoc,List.replicate_succ,List.cons_append,←hlt]
  rw [hout]
  unfold piece
  by_cases h4:n+1<4
  ·rw [if_pos h4,y4m most c _ (n+1) like last out (by omega) h1 hs (by omega)]
   refine y2g most f (l.drop n) (n+1) c _ (by simp;omega) h4 (.inr fun c' r e=>?_) (by simp;omega)
   have hlen:n<l.length:=by
    have:=congrArg List.length e
    simp at this
    omega
   have h5:=hst (by omega) hlen
   rw [List.drop_eq_getElem_cons hlen] at e
   injection e with e1 e2
   rw [List.getD_eq_getElem?_getD,List.getElem?_eq_getElem hlen] at h5
   rw [←e1]
   exact fun e=>h5 (by simpa using e.symm)
  ·rw [if_neg h4,List.append_assoc,y4m most c _ 4 like last out (by omega) h1 hs (by omega)]
   rw [List.singleton_append,unp,if_pos rfl,if_neg (by simp;omega)]
   rw [y2g most f (l.drop n) 0 (n+1-4) _ (by simp;omega) (by omega) (.inl rfl) (by simp;omega)]
   rw [List.append_assoc out,List.replicate_append_replicate,show 4+(n+1-4)=n+1 by omega]
def z0o (b:List Nat):List Nat:=(List.range 256).filter fun c=>decide (c∈b)
theorem z5f {b:List Nat} {c:Nat}:c∈z0o b↔c<256∧c∈b:=by
 unfold z0o
 rw [List.mem_filter,List.mem_range,decide_eq_true_iff]
theorem used_len (b:List Nat):(z0o b).length≤256:=by
 have:=List.length_filter_le (fun c=>decide (c∈b)) (List.range 256)
 rwa [List.length_range] at this
def z0k (l:List Nat) (k:Nat):List Nat:=l.getD k 0 :: (l.take k++l.drop (k+1))
theorem z2s {l:List Nat} {k:Nat} (hk:k<l.length):(z0k l k).Perm l:=by
 unfold z0k
 have e:l=l.take k++l.getD k 0 :: l.drop (k+1):=by
  rw [List.getD_eq_getElem?_getD,List.getElem?_eq_getElem hk]
  conv=>lhs;rw [←List.take_append_drop k l,List.drop_eq_getElem_cons hk]
  rfl
 conv=>rhs;rw [e]
 exact List.perm_middle.symm
theorem z1q {l:List Nat} {k:Nat} (hk:k<l.length):(z0k l k).length=l.length:=(z2s hk).length_eq
def place (c:Nat):List Nat→Nat
 | []=>0
 | x :: l=>if x=c then 0 else place c l+1
theorem z5h {c:Nat}:∀{l:List Nat},c∈l→place c l<l.length∧l.getD (place c l) 0=c
 | [],h=>by simp at h
 | x :: l,h=>by
  unfold place
  by_cases e:x=c
  ·rw [if_pos e];simp [e]
  ·rw [if_neg e]
   have:=z5h (c:=c) (l:=l) (by
    rcases List.mem_cons.1 h with h|h
    ·exact absurd h.symm e
    ·exact h)
   simp
   exact ⟨this.1,by simpa using this.2⟩
def z3b:List Nat→List Nat→List Nat
 | _,[]=>[]
 | l,c :: r=>place c l :: z3b (z0k l (place c l)) r
def z0n (b:List Nat):List Nat:=z3b (z0o b) b
def unf:List Nat→List Int→List Nat→List Nat × Nat
 | _,[],out=>(out,0)
 | l,k :: r,out=>if k<0∨(l.length:Int)≤k then ([],2) else unf (z0k l k.toNat) r (out++[l.getD k.toNat 0])
theorem y4k:∀ (b l out:List Nat),(∀c∈b,c∈l)→unf l ((z3b l b).map fun k:Nat=>(k:Int)) out=(out++b,0)
 | [],l,out,_=>by simp [z3b,unf]
 | c :: r,l,out,h=>by
  have hp:=z5h (h c (List.mem_cons_self ..))
  rw [z3b,List.map_cons,unf,if_neg (by omega),Int.toNat_natCast,hp.2,y4k r _ _ (fun x hx=>(z2s hp.1).mem_iff.2 (h x (List.mem_cons_of_mem _ hx)))]
  simp
theorem z1u:∀ (b l:List Nat),(z3b l b).length=b.length
 | [],l=>rfl
 | c :: r,l=>by rw [z3b];simp [z1u r]
theorem z4f:∀ (b l:List Nat),(∀c∈b,c∈l)→∀k∈z3b l b,k<l.length
 | [],l,_,k,hk=>by simp [z3b] at hk
 | c :: r,l,h,k,hk=>by
  have hp:=z5h (h c (List.mem_cons_self ..))
  rw [z3b,List.mem_cons] at hk
  rcases hk with rfl|hk
  ·exact hp.1
  ·have:=z4f r _ (fun x hx=>(z2s hp.1).mem_iff.2 (h x (List.mem_cons_of_mem _ hx))) k hk
   rw [z1q hp.1] at this
   exact this
def digits:Nat→List Nat
 | 0=>[]
 | k+1=>k%2 :: digits (k/2)
decreasing_by omega
def symG (n:Nat):List Nat→Nat→List Nat
 | [],run=>digits run++[n+1]
 | p :: r,run=>if p=0 then symG n r (run+1) else digits run++(p+1) :: symG n r 0
def plc (n most:Int):List Int→Nat→Nat→List Nat→List Nat × Nat
 | [],run,k,out=>if most-(out.length:Int)<(run:Int) then ([],3) else ([],10)
 | s :: r,run,k,out =>
  if s=0∨s=1 then (if k=20 then ([],11) else plc n most r (run+(s.toNat+1)*2^k) (k+1) out)
  else if most-(out.length:Int)<(run:Int) then ([],3)
  else if s<0∨n+1<s then ([],11)
  else if s=n+1 then (if r=[] then (out++List.replicate run 0,0) else ([],15))
  else if ((out.length+run:Nat):Int)=most then ([],3)
  else plc n most r 0 0 (out++List.replicate run 0++[(s-1).toNat])
theorem z9t:∀k,2^(digits k).length≤k+1:=by
 intro k
 induction k using Nat.strongRecOn with
 | ind k ih =>
  cases k with
  | zero=>simp [digits]
  | succ k =>
   rw [digits,List.length_cons,Nat.pow_succ]
   have:=ih (k/2) (by omega)
   omega
theorem y0d (n most:Int) (rest:List Int) (out:List Nat):∀m run k,k+(digits m).length≤20→plc n most ((digits m).map (fun d:Nat=>(d:Int))++rest) run k out=plc n most rest (run+m*2^k) (k+(digits m).length) out:=by
 intro m
 induction m using Nat.strongRecOn with
 | ind m ih =>
  intro run k hk
  cases m with
  | zero=>simp [digits]
  | succ m =>
   rw [digits] at hk ⊢
   simp only [List.length_cons] at hk
   rw [List.map_cons,List.cons_append,plc,if_pos (by omega),if_neg (by omega),ih (m/2) (by omega) _ (k+1) (by omega)]
   rw [List.length_cons,Int.toNat_natCast,show k+1+(digits (m/2)).length=k+((digits (m/2)).length+1) by omega]
   congr 1
   have e:m+1=m%2+1+m/2*2:=by omega
   conv=>rhs;rw [e]
   rw [Nat.pow_succ,Nat.add_mul (m%2+1),Nat.mul_assoc (m/2) 2,Nat.mul_comm 2 (2^k)]
   omega
theorem y5h (n:Nat) (most:Int):∀ (ps:List Nat) (run:Nat) (out:List Nat),(∀p∈ps,p<n)→1≤n→(out.length:Int)+run+ps.length≤most→run+ps.length≤1048576→plc n most ((symG n ps run).map fun d:Nat=>(d:Int)) 0 0 out=(out++List.replicate run 0++ps,0)
 | [],run,out,_,hn,hm,hr=>by
  have hd:(digits run).length≤20:=by
   have:=z9t run
   rcases Nat.lt_or_ge 20 (digits run).length with h|h
   ·have:=Nat.pow_le_pow_right (n:=2) (by omega) h
    simp at hr
    omega
   ·exact h
  rw [symG,List.map_append,y0d _ _ _ _ run 0 0 (by omega),List.map_singleton,plc,if_neg (by omega),if_neg (by simp at hm ⊢;omega),if_neg (by omega),if_pos (by omega),if_pos rfl]
  simp
 | p :: r,run,out,h,hn,hm,hr=>by
  simp only [List.length_cons] at hm hr
  have hp:=h p (List.mem_cons_self ..)
  by_cases e:p=0
  ·rw [symG,if_pos e,y5h n most r (run+1) out (fun x hx=>h x (List.mem_cons_of_mem _ hx)) hn (by omega) (by omega),e,List.replicate_succ']
   simp
  ·have hd:(digits run).length≤20:=by
    have:=z9t run
    rcases Nat.lt_or_ge 20 (digits run).length with h|h
    ·have:=Nat.pow_le_pow_right (n:=2) (by omega) h
     omega
    ·exact h
   rw [symG,if_neg e,List.map_append,y0d _ _ _ _ run 0 0 (by omega),List.map_cons,plc,if_neg (by omega),if_neg (by simp;omega),if_neg (by omega),if_neg (by omega),if_neg (by simp;omega)]
   rw [y5h n most r 0 _ (fun x hx=>h x (List.mem_cons_of_mem _ hx)) hn (by simp;omega) (by omega)]
   simp
end R11.Runs
namespace X10.Suf
def tw (b:List Nat) (i m:Nat):Nat:=b.getD ((i+m)%b.length) 0
def rot (b:List Nat) (i:Nat):List Nat:=(List.range b.length).map (tw b i)
def prev (n i:Nat):Nat:=(i+n-1)%n
structure IsRows (b l:List Nat):Prop where
 perm:l.Perm (List.range b.length)
 sorted:l.Pairwise fun i k=>rot b i≤rot b k∧(rot b i=rot b k→i<k)
def col (b l:List Nat):List Nat:=l.map fun i=>b.getD (prev b.length i) 0
structure IsNext (c nx:List Nat):Prop where
 perm:nx.Perm (List.range c.length)
 sorted:nx.Pairwise fun x y=>c.getD x 0<c.getD y 0∨(c.getD x 0=c.getD y 0∧x<y)
theorem y0h (b:List Nat) (i:Nat):(rot b i).length=b.length:=by simp [rot]
theorem IsRows.len {b l:List Nat} (h:IsRows b l):l.length=b.length:=by rw [h.perm.length_eq,List.length_range]
theorem IsNext.len {c nx:List Nat} (h:IsNext c nx):nx.length=c.length:=by rw [h.perm.length_eq,List.length_range]
theorem IsRows.lt {b l:List Nat} (h:IsRows b l) {i:Nat} (hi:i∈l):i<b.length:=List.mem_range.1 (h.perm.mem_iff.1 hi)
theorem IsNext.lt {c nx:List Nat} (h:IsNext c nx) {i:Nat} (hi:i∈nx):i<c.length:=List.mem_range.1 (h.perm.mem_iff.1 hi)
theorem getD_mem {l:List Nat} {r:Nat} (h:r<l.length):l.getD r 0∈l:=by
 rw [List.getD_eq_getElem?_getD,List.getElem?_eq_getElem h]
 exact List.getElem_mem h
theorem y7k (b:List Nat) (i m:Nat):tw b i (m%b.length)=tw b i m:=by
 unfold tw
 rw [Nat.add_mod_mod]
theorem w1s {b:List Nat} {i k:Nat} (h:rot b i=rot b k) (hb:0<b.length) (m:Nat):tw b i m=tw b k m:=by
 rw [←y7k b i,←y7k b k]
 have hm:m%b.length<b.length:=Nat.mod_lt _ hb
 have:=congrArg (fun l=>l.getD (m%b.length) 0) h
 simpa [rot,List.getD_eq_getElem?_getD,hm] using this
theorem x3r {b:List Nat} {i:Nat} (hi:i<b.length) (m:Nat):tw b (prev b.length i) (m+1)=tw b i m:=by
 unfold tw prev
 congr 1
 rw [Nat.mod_add_mod,show i+b.length-1+(m+1)=i+m+b.length by omega,Nat.add_mod_right]
theorem w0b {b:List Nat} {i:Nat} (hi:i<b.length):tw b i 0=b.getD i 0:=by
 unfold tw
 rw [Nat.add_zero,Nat.mod_eq_of_lt hi]
theorem y5j {n i:Nat} (h:i<n):prev n i<n:=Nat.mod_lt _ (by omega)
theorem y7a {b:List Nat} {i:Nat} (hi:i<b.length):rot b (prev b.length i)=b.getD (prev b.length i) 0 :: (rot b i).dropLast:=by
 obtain ⟨n,hn⟩:∃n,b.length=n+1:=⟨b.length-1,by omega⟩
 have e1:rot b (prev b.length i)=tw b (prev b.length i) 0 :: (List.range n).map fun m=>tw b (prev b.length i) (m+1):=by
  unfold rot
  rw [hn,List.range_succ_eq_map,List.map_cons,List.map_map]
  rfl
 have e2:(rot b i).dropLast=(List.range n).map (tw b i):=by
  unfold rot
  rw [hn,List.range_succ,List.map_append,List.map_singleton,List.dropLast_concat]
 rw [e1,e2,w0b (y5j hi)]
 congr 1
 exact List.map_congr_left fun m _=>x3r hi m
theorem x0j:∀ (a c:List Nat),a.length=c.length→a≤c→a.dropLast≤c.dropLast
 | [],[],_,_=>List.le_refl _
 | [x],[y],_,_=>List.le_refl _
 | x :: x' :: a,y :: y' :: c,hl,h=>by
  rw [List.dropLast_cons_cons,List.dropLast_cons_cons,List.cons_le_cons_iff]
  rw [List.cons_le_cons_iff] at h
  rcases h with h|⟨h1,h2⟩
  ·exact .inl h
  ·exact .inr ⟨h1,x0j (x' :: a) (y' :: c) (by simpa using hl) h2⟩
 | [],y :: c,hl,_=>by simp at hl
 | x :: a,[],hl,_=>by simp at hl
 | [x],y :: y' :: c,hl,_=>by simp at hl
 | x :: x' :: a,[y],hl,_=>by simp at hl
theorem y3t (n:Nat):((List.range n).map (prev n)).Perm (List.range n):=by
 have inj:∀i,i<n→∀k,k<n→prev n i=prev n k→i=k:=by
  intro i hi k hk h
  unfold prev at h
  have key:∀i,i<n→((i+n-1)%n+1)%n=i:=fun i hi=>by
   rw [Nat.mod_add_mod,show i+n-1+1=i+n by omega,Nat.add_mod_right,Nat.mod_eq_of_lt hi]
  rw [←key i hi,←key k hk,h]
 rw [List.perm_ext_iff_of_nodup]
 ·intro a
  rw [List.mem_map,List.mem_range]
  constructor
  ·rintro ⟨i,hi,rfl⟩
   exact y5j (List.mem_range.1 hi)
  ·intro ha
   refine ⟨(a+1)%n,List.mem_range.2 (Nat.mod_lt _ (by omega)),?_⟩
   unfold prev
   rcases Nat.lt_or_ge (a+1) n with h|h
   ·rw [Nat.mod_eq_of_lt h,show a+1+n-1=a+n by omega,Nat.add_mod_right,Nat.mod_eq_of_lt ha]
   ·obtain rfl:n=a+1:=by omega
    rw [Nat.mod_self,show 0+(a+1)-1=a by omega,Nat.mod_eq_of_lt (by omega)]
 ·rw [List.nodup_iff_pairwise_ne,List.pairwise_map]
  refine List.Pairwise.imp_of_mem ?_ (List.nodup_range (n:=n))
  intro a c ha hc hne h
  exact hne (inj a (List.mem_range.1 ha) c (List.mem_range.1 hc) h)
 ·exact List.nodup_range
theorem y6p (l:List Nat) (f:Nat→Nat):(List.range l.length).map (fun x=>f (l.getD x 0))=l.map f:=by
 refine List.ext_getElem? fun j=>?_
 rw [List.getElem?_map,List.getElem?_map]
 by_cases h:j<l.length
 ·rw [List.getElem?_range h,List.getElem?_eq_getElem h]
  simp [List.getD_eq_getElem?_getD,List.getElem?_eq_getElem h]
 ·rw [List.getElem?_eq_none (by simpa using h),List.getElem?_eq_none (by simpa using h)]
  rfl
theorem x9j {b l nx:List Nat} (hl:IsRows b l) (hn:IsNext (col b l) nx) (r:Nat) (hr:r<b.length):rot b (prev b.length (l.getD (nx.getD r 0) 0))=rot b (l.getD r 0):=by
 have hcl:(col b l).length=b.length:=by rw [col,List.length_map,hl.len]
 have hA:(nx.map fun x=>rot b (prev b.length (l.getD x 0)))=l.map (rot b):=by
  refine List.Perm.eq_of_pairwise (le:=fun a c:List Nat=>a≤c) (fun _ _ _ _ h1 h2=>List.le_antisymm h1 h2) ?_ ?_ ?_
  ·rw [List.pairwise_map]
   refine List.Pairwise.imp_of_mem ?_ hn.sorted
   intro x y hx hy h
   have hx:=hn.lt hx
   have hy:=hn.lt hy
   rw [hcl] at hx hy
   have hix:=hl.lt (getD_mem (show x<l.length by rw [hl.len];exact hx))
   have hiy:=hl.lt (getD_mem (show y<l.length by rw [hl.len];exact hy))
   have cx:∀x,x<b.length→(col b l).getD x 0=b.getD (prev b.length (l.getD x 0)) 0:=fun x hx=>by
    have:x<l.length:=by rw [hl.len];exact hx
    simp [col,List.getD_eq_getElem?_getD,List.getElem?_map,List.getElem?_eq_getElem this]
   rw [cx x hx,cx y hy] at h
   rw [y7a hix,y7a hiy,List.cons_le_cons_iff]
   rcases h with h|⟨h1,h2⟩
   ·exact .inl h
   ·refine .inr ⟨h1,x0j _ _ (by rw [y0h,y0h]) ?_⟩
    have hp:=List.pairwise_iff_getElem.1 hl.sorted x y (by rw [hl.len];exact hx) (by rw [hl.len];exact hy) h2
    have e:∀x (h:x<l.length),l.getD x 0=l[x]:=fun x h=>by simp [List.getD_eq_getElem?_getD,List.getElem?_eq_getElem h]
    rw [e x (by rw [hl.len];exact hx),e y (by rw [hl.len];exact hy)]
    exact hp.1
  ·rw [List.pairwise_map]
   exact hl.sorted.imp fun h=>h.1
  ·have p1:(nx.map fun x=>rot b (prev b.length (l.getD x 0))).Perm ((List.range l.length).map fun x=>rot b (prev b.length (l.getD x 0))):=by
    rw [hl.len,←hcl]
    exact hn.perm.map _
   have p2:((List.range l.length).map fun x=>rot b (prev b.length (l.getD x 0)))=(l.map (prev b.length)).map (rot b):=by
    rw [←y6p l (prev b.length),List.map_map]
    rfl
   rw [p2] at p1
   exact p1.trans ((((hl.perm.map _).trans (y3t _)).trans hl.perm.symm).map _)
 have hr1:r<nx.length:=by rw [hn.len,hcl];exact hr
 have hr2:r<l.length:=by rw [hl.len];exact hr
 have:=congrArg (fun q=>q[r]?) hA
 simp only [List.getElem?_map,List.getElem?_eq_getElem hr1,List.getElem?_eq_getElem hr2,Option.map_some,Option.some.injEq] at this
 simpa [List.getD_eq_getElem?_getD,List.getElem?_eq_getElem hr1,List.getElem?_eq_getElem hr2] using this
theorem x9k {b l nx:List Nat} (hl:IsRows b l) (hn:IsNext (col b l) nx) (r:Nat) (hr:r<b.length) (m:Nat):tw b (l.getD (nx.getD r 0) 0) m=tw b (l.getD r 0) (m+1):=by
 have hcl:(col b l).length=b.length:=by rw [col,List.length_map,hl.len]
 have hx:=hn.lt (getD_mem (show r<nx.length by rw [hn.len,hcl];exact hr))
 rw [hcl] at hx
 have hi:=hl.lt (getD_mem (show nx.getD r 0<l.length by rw [hl.len];exact hx))
 rw [←w1s (x9j hl hn r hr) (by omega),x3r hi]
def steps (nx:List Nat) (row:Nat):Nat→Nat
 | 0=>row
 | k+1=>nx.getD (steps nx row k) 0
theorem y7e {b l nx:List Nat} (hl:IsRows b l) (hn:IsNext (col b l) nx) {row:Nat} (hr:row<b.length) (h0:l.getD row 0=0):∀k,steps nx row k<b.length∧∀m,tw b (l.getD (steps nx row k) 0) m=tw b 0 (m+k)
 | 0=>⟨hr,fun m=>by rw [steps,h0,Nat.add_zero]⟩
 | k+1=>by
  have hcl:(col b l).length=b.length:=by rw [col,List.length_map,hl.len]
  obtain ⟨h1,h2⟩:=y7e hl hn hr h0 k
  have hx:=hn.lt (getD_mem (show steps nx row k<nx.length by rw [hn.len,hcl];exact h1))
  rw [hcl] at hx
  refine ⟨hx,fun m=>?_⟩
  rw [steps,x9k hl hn _ h1,h2,show m+1+k=m+(k+1) by omega]
def back (c nx:List Nat) (row:Nat):List Nat:=(List.range c.length).map fun k=>c.getD (steps nx row (k+1)) 0
theorem back_is {b l nx:List Nat} (hl:IsRows b l) (hn:IsNext (col b l) nx) {row:Nat} (hr:row<b.length) (h0:l.getD row 0=0):back (col b l) nx row=b:=by
 have hcl:(col b l).length=b.length:=by rw [col,List.length_map,hl.len]
 unfold back
 rw [hcl]
 refine List.ext_getElem? fun k=>?_
 by_cases h:k<b.length
 ·rw [List.getElem?_map,List.getElem?_range h,List.getElem?_eq_getElem h,Option.map_some]
  obtain ⟨h1,h2⟩:=y7e hl hn hr h0 (k+1)
  have hi:=hl.lt (getD_mem (show steps nx row (k+1)<l.length by rw [hl.len];exact h1))
  have e1:(col b l).getD (steps nx row (k+1)) 0=b.getD (prev b.length (l.getD (steps nx row (k+1)) 0)) 0:=by
   have:steps nx row (k+1)<l.length:=by rw [hl.len];exact h1
   simp [col,List.getD_eq_getElem?_getD,List.getElem?_map,List.getElem?_eq_getElem this]
  have e2:=h2 (b.length-1)
  unfold tw at e2
  rw [show l.getD (steps nx row (k+1)) 0+(b.length-1)=l.getD (steps nx row (k+1)) 0+b.length-1 by omega,show 0+(b.length-1+(k+1))=k+b.length by omega,Nat.add_mod_right,Nat.mod_eq_of_lt h] at e2
  rw [e1]
  unfold prev
  rw [e2]
  simp [List.getD_eq_getElem?_getD,List.getElem?_eq_getElem h]
 ·rw [List.getElem?_eq_none (by simpa using h),List.getElem?_eq_none (by simpa using h)]
end X10.Suf
namespace X10.Suf
def x9x (c:List Nat) (v:Nat):List Nat:=(List.range c.length).filter fun i=>c.getD i 0 == v
def nextF (c:List Nat) (k:Nat):List Nat:=((List.range k).map (x9x c)).flatten
theorem z5e {c:List Nat} {v i:Nat}:i∈x9x c v↔i<c.length∧c.getD i 0=v:=by
 unfold x9x
 rw [List.mem_filter,List.mem_range,beq_iff_eq]
theorem z6h (c:List Nat) (k:Nat):(nextF c k).Pairwise fun x y=>c.getD x 0<c.getD y 0∨(c.getD x 0=c.getD y 0∧x<y):=by
 unfold nextF
 rw [List.pairwise_flatten]
 constructor
 ·intro l hl
  obtain ⟨v,_,rfl⟩:=List.mem_map.1 hl
  refine List.Pairwise.imp_of_mem ?_ ((List.pairwise_lt_range (n:=c.length)).filter _)
  intro x y hx hy h
  rw [z5e] at hx hy
  exact .inr ⟨by rw [hx.2,hy.2],h⟩
 ·rw [List.pairwise_map]
  refine List.Pairwise.imp ?_ (List.pairwise_lt_range (n:=k))
  intro v u h x hx y hy
  rw [z5e] at hx hy
  exact .inl (by omega)
theorem nextF_is {c:List Nat} (h:∀z∈c,z<256):IsNext c (nextF c 256):=by
 refine ⟨?_,z6h c 256⟩
 rw [List.perm_ext_iff_of_nodup]
 ·intro i
  unfold nextF
  rw [List.mem_flatten,List.mem_range]
  constructor
  ·rintro ⟨l,hl,hi⟩
   obtain ⟨v,_,rfl⟩:=List.mem_map.1 hl
   exact (z5e.1 hi).1
  ·intro hi
   exact ⟨_,List.mem_map.2 ⟨c.getD i 0,List.mem_range.2 (h _ (getD_mem hi)),rfl⟩,z5e.2 ⟨hi,rfl⟩⟩
 ·rw [List.nodup_iff_pairwise_ne]
  refine List.Pairwise.imp ?_ (z6h c 256)
  rintro x y hxy rfl
  omega
 ·exact List.nodup_range
def Ahead (b:List Nat) (i k:Nat):Prop:=rot b i≤rot b k∧(rot b i=rot b k→i<k)
theorem y2n {b:List Nat} {i:Nat} (h:Ahead b i i):False:=Nat.lt_irrefl _ (h.2 rfl)
theorem x4f {b:List Nat} {i k n:Nat} (hn:n<b.length) (he:∀m,m<n→tw b i m=tw b k m) (hlt:tw b i n<tw b k n):Ahead b i k:=by
 have key:∀ (n:Nat) (f g:Nat→Nat) (N:Nat),n<N→(∀m,m<n→f m=g m)→f n<g n→(List.range N).map f<(List.range N).map g:=by
  intro n
  induction n with
  | zero =>
   intro f g N hN _ h
   obtain ⟨M,rfl⟩:∃M,N=M+1:=⟨N-1,by omega⟩
   rw [List.range_succ_eq_map,List.map_cons,List.map_cons,List.cons_lt_cons_iff]
   exact .inl h
  | succ n ih =>
   intro f g N hN he h
   obtain ⟨M,rfl⟩:∃M,N=M+1:=⟨N-1,by omega⟩
   rw [List.range_succ_eq_map,List.map_cons,List.map_cons,List.cons_lt_cons_iff,List.map_map,List.map_map]
   exact .inr ⟨he 0 (by omega),ih (f∘Nat.succ) (g∘Nat.succ) M (by omega) (fun m hm=>he (m+1) (by omega)) h⟩
 have hr:=key n (tw b i) (tw b k) b.length hn he hlt
 refine ⟨List.le_of_lt hr,fun e=>?_⟩
 unfold rot at e
 rw [e] at hr
 exact absurd hr (List.lt_irrefl _)
theorem x6k {b:List Nat} {i k:Nat} (he:∀m,m<b.length→tw b i m=tw b k m):rot b i=rot b k:=by
 unfold rot
 exact List.map_congr_left fun m hm=>he m (List.mem_range.1 hm)
theorem row_of {b l:List Nat} (h:IsRows b l) (hb:0<b.length):∃r,r<b.length∧l.getD r 0=0∧∀q,q<b.length→l.getD q 0=0→q=r:=by
 have hm:0∈l:=h.perm.mem_iff.2 (List.mem_range.2 hb)
 obtain ⟨r,hr,e⟩:=List.getElem_of_mem hm
 have hd:l.Nodup:=h.perm.nodup_iff.2 List.nodup_range
 have ge:∀q (hq:q<l.length),l.getD q 0=l[q]:=fun q hq=>by simp [List.getD_eq_getElem?_getD,List.getElem?_eq_getElem hq]
 refine ⟨r,by rw [←h.len];exact hr,by rw [ge r hr,e],fun q hq hq0=>?_⟩
 rw [←h.len] at hq
 rw [ge q hq,←e] at hq0
 rcases Nat.lt_trichotomy q r with hlt|heq|hlt
 ·exact absurd hq0 (List.pairwise_iff_getElem.1 (List.nodup_iff_pairwise_ne.1 hd) q r hq hr hlt)
 ·exact heq
 ·exact absurd hq0.symm (List.pairwise_iff_getElem.1 (List.nodup_iff_pairwise_ne.1 hd) r q hr hq hlt)
theorem col_perm {b l:List Nat} (h:IsRows b l):(col b l).Perm b:=by
 have p1:(col b l).Perm ((List.range b.length).map fun i=>b.getD (prev b.length i) 0):=h.perm.map _
 have p2:((List.range b.length).map fun i=>b.getD (prev b.length i) 0)=((List.range b.length).map (prev b.length)).map fun i=>b.getD i 0:=by rw [List.map_map];rfl
 rw [p2] at p1
 refine p1.trans (((y3t _).map _).trans ?_)
 have:=y6p b id
 simp only [id,List.map_id_fun] at this
 rw [this]
end X10.Suf
namespace Bz
open Infl R11.Runs X10
def nbH (v n:Nat):List Bool:=(List.range n).map fun i=>v.testBit (n-1-i)
theorem nbH_len (v n:Nat):(nbH v n).length=n:=by simp [nbH]
def vf (f:Nat→Bool):Nat→Nat
 | 0=>0
 | n+1=>2*vf f n+(f n).toNat
theorem vf_lt (f:Nat→Bool):∀n,vf f n<2^n
 | 0=>by simp [vf]
 | n+1=>by
  have:=vf_lt f n
  have h2:=Bool.toNat_le (f n)
  rw [vf,Nat.pow_succ]
  omega
theorem vf_congr {f g:Nat→Bool}:∀n,(∀i,i<n→f i=g i)→vf f n=vf g n
 | 0,_=>rfl
 | n+1,h=>by rw [vf,vf,vf_congr n (fun i hi=>h i (by omega)),h n (by omega)]
theorem vf_test:∀ (n v:Nat) (f:Nat→Bool),v<2^n→(∀i,i<n→f i=v.testBit (n-1-i))→vf f n=v
 | 0,v,f,hv,_=>by simp at hv;rw [vf,hv]
 | n+1,v,f,hv,h=>by
  rw [vf,vf_test n (v/2) f (by rw [Nat.pow_succ] at hv;omega) (fun i hi=>by
   rw [h i (by omega),Nat.testBit_div_two,show n-1-i+1=n+1-1-i by omega]),h n (by omega)]
  rw [show n+1-1-n=0 by omega,Nat.testBit_zero]
  rcases Nat.mod_two_eq_zero_or_one v with e|e<;>simp [e]<;>omega
theorem test_vf (f:Nat→Bool):∀n i,i<n→(vf f n).testBit (n-1-i)=f i
 | 0,i,h=>by omega
 | n+1,i,h=>by
  by_cases e:i=n
  ·subst e
   rw [vf,show i+1-1-i=0 by omega,Nat.testBit_zero]
   cases f i<;>simp<;>omega
  ·have:=test_vf f n i (by omega)
   rw [vf,show n+1-1-i=(n-1-i)+1 by omega,Nat.testBit_succ]
   rw [show (2*vf f n+(f n).toNat)/2=vf f n by have:=Bool.toNat_le (f n);omega]
   exact this
def getH (n:Nat):Rd Nat:=fun I p=>if p+n≤I.m then .ok (vf (fun i=>I.f (p+i)) n) (p+n) else .bad 10
def Lies (I:In) (p:Nat) (L:List Bool):Prop:=p+L.length≤I.m∧∀i,i<L.length→I.f (p+i)=L.getD i false
theorem Lies.left {I:In} {p:Nat} {A B:List Bool} (h:Lies I p (A++B)):Lies I p A:=by
 obtain ⟨h1,h2⟩:=h
 rw [List.length_append] at h1 h2
 refine ⟨by omega,fun i hi=>?_⟩
 rw [h2 i (by omega),List.getD_eq_getElem?_getD,List.getD_eq_getElem?_getD,List.getElem?_append_left hi]
theorem Lies.right {I:In} {p:Nat} {A B:List Bool} (h:Lies I p (A++B)):Lies I (p+A.length) B:=by
 obtain ⟨h1,h2⟩:=h
 rw [List.length_append] at h1 h2
 refine ⟨by omega,fun i hi=>?_⟩
 rw [Nat.add_assoc,h2 (A.length+i) (by omega),List.getD_eq_getElem?_getD,List.getD_eq_getElem?_getD,List.getElem?_append_right (by omega),Nat.add_sub_cancel_left]
theorem z2t {I:In} {p v n:Nat} (h:Lies I p (nbH v n)) (hv:v<2^n):getH n I p=.ok v (p+n):=by
 obtain ⟨h1,h2⟩:=h
 rw [nbH_len] at h1 h2
 unfold getH
 rw [if_pos h1,vf_test n v _ hv (fun i hi=>?_)]
 rw [h2 i hi]
 simp [nbH,hi]
theorem z7q {I:In} {p:Nat} {f:Nat→Bool} {n:Nat} (h:Lies I p ((List.range n).map f)):getH n I p=.ok (vf f n) (p+n):=by
 obtain ⟨h1,h2⟩:=h
 rw [List.length_map,List.length_range] at h1 h2
 unfold getH
 rw [if_pos h1,vf_congr n (fun i hi=>?_)]
 rw [h2 i hi]
 simp [hi]
theorem z3j {I:In} {p:Nat} {b:Bool} {L:List Bool} (h:Lies I p (b :: L)):getH 1 I p=.ok b.toNat (p+1)∧Lies I (p+1) L:=by
 refine ⟨?_,h.right (A:=[b])⟩
 have:=h.left (A:=[b]) (B:=L)
 have e:[b]=(List.range 1).map fun _=>b:=rfl
 rw [e] at this
 rw [z7q this]
 simp [vf]
section
variable (g:List Nat→(Nat→Bool)→Nat→Nat × Nat × Nat) (ce:List Nat→Nat→Bool→Nat) (crc:List Nat→Nat)
def ownBytes (i own:Nat):List Nat:=((List.range 16).filter fun k=>own.testBit (15-k)).map fun k=>16*i+k
def useds (gr:Nat):Nat→List Nat→Rd (List Nat)
 | 0,out=>Rd.pure out
 | k+1,out=>if gr.testBit k=true then (getH 16).bind fun own=>useds gr k (out++ownBytes (15-k) own) else useds gr k out
def usedR:Rd (List Nat):=(getH 16).bind fun gr=>(useds gr 16 []).bind fun u=>if u=[] then Rd.fail 11 else Rd.pure u
def una (t:Nat):Nat→Rd Nat
 | 0=>Rd.fail 11
 | k+1=>(getH 1).bind fun b=>if b=1 then una t k else Rd.pure (t-(k+1))
def sels (t:Nat):Nat→List Nat→List Nat→Rd (List Nat)
 | 0,l,out=>Rd.pure out
 | n+1,l,out=>(una t t).bind fun k=>sels t n (z0k l k) (out++[l.getD k 0])
def selR (t:Nat):Rd (List Nat):=(getH 15).bind fun n=>if n=0 then Rd.fail 11 else sels t n [0,1,2,3,4,5] []
def len1:Nat→Nat→Rd Nat
 | 0,_=>Rd.stuck
 | f+1,a=>if a<1∨20<a then Rd.fail 11 else (getH 1).bind fun b=>if b=0 then Rd.pure a else (getH 1).bind fun c=>if c=0 then len1 f (a+1) else len1 f (a-1)
def lens (f:Nat):Nat→Nat→List Nat→Rd (List Nat)
 | 0,a,out=>Rd.pure out
 | n+1,a,out=>(len1 f a).bind fun a'=>lens f n a' (out++[a'])
def tabR (f n:Nat):Rd (List Nat):=(getH 5).bind fun a=>lens f n a []
def tabs (f n:Nat):Nat→List (List Nat)→Rd (List (List Nat))
 | 0,out=>Rd.pure out
 | t+1,out=>(tabR f n).bind fun l=>tabs f n t (out++[l])
def z6e:List (List Nat)→Nat
 | []=>0
 | l :: r=>if ce l 20 false=0 then z6e r else ce l 20 false
def syms (cs:List (List Nat)) (sel:List Nat) (last:Nat):Nat→List Nat→Rd (List Nat)
 | 0,_=>Rd.stuck
 | f+1,out=>if sel.length≤out.length/50 then Rd.fail 11 else
  (word g (cs.getD (sel.getD (out.length/50) 0) [])).bind fun s=>if s=last then Rd.pure (out++[s]) else syms cs sel last f (out++[s])
def y2e (level:Nat) (used ss:List Nat) (row:Nat) (room:Int) (sum:Nat):List Nat × Nat :=
 match plc (used.length:Int) ((100000*level:Nat):Int) (ss.map fun d:Nat=>(d:Int)) 0 0 [] with
 | (pl,0) =>
  if (unf used (pl.map fun d:Nat=>(d:Int)) []).1.length≤row then ([],11)
  else match z2v (Suf.back (unf used (pl.map fun d:Nat=>(d:Int)) []).1 (Suf.nextF (unf used (pl.map fun d:Nat=>(d:Int)) []).1 256) row) room with
   | (t,0)=>if crc t≠sum then ([],12) else (t,0)
   | (_,e+1)=>([],e+1)
 | (_,e+1)=>([],e+1)
def blockR (f level:Nat) (most:Nat) (out:List Nat):Rd (Nat × List Nat) :=
 (getH 32).bind fun sum=>(getH 1).bind fun k=>if k=1 then Rd.fail 16 else
 (getH 24).bind fun row=>usedR.bind fun used=>(getH 3).bind fun t=>if t<2∨6<t then Rd.fail 11 else
 (selR t).bind fun sel=>(tabs f (used.length+2) t []).bind fun cs=>okE (z6e ce cs)
  ((syms g cs sel (used.length+1) f []).bind fun ss =>
   okE (y2e crc level used ss row ((most:Int)-(out.length:Int)) sum).2 (Rd.pure (sum,out++(y2e crc level used ss row ((most:Int)-(out.length:Int)) sum).1)))
def rot1 (s:Nat):Nat:=s*2%4294967296 ||| s/2147483648
def sumF (l:List Nat):Nat:=l.foldl (fun s x=>rot1 s ^^^ x) 0
def blocksR (f level most:Nat):Nat→List Nat→List Nat→Rd (List Nat)
 | 0,_,_=>Rd.stuck
 | k+1,sums,out=>(getH 48).bind fun m =>
  if m=0x314159265359 then (blockR g ce crc f level most out).bind fun r=>blocksR f level most k (sums++[r.1]) r.2
  else if m=0x177245385090 then (getH 32).bind fun s=>if s≠sumF sums then Rd.fail 12 else align.bind fun _=>Rd.pure out
  else Rd.fail 11
def streamR (f most:Nat) (out:List Nat):Rd (List Nat) :=
 (getH 24).bind fun m=>if m≠0x425a68 then Rd.fail 11 else (getH 8).bind fun d=>if d<49∨57<d then Rd.fail 16 else blocksR g ce crc f (d-48) most f [] out
def streamsR (f most:Nat):Nat→List Nat→Rd (List Nat)
 | 0,_=>Rd.stuck
 | k+1,out=>(streamR g ce crc f most out).bind fun o=>fun I p=>if I.m≤p then .ok o p else streamsR f most k o I p
end
end Bz
namespace Bz
open Infl R11.Runs X10
/-! ### the bytes that come -/
def hasG (p:Nat→Bool) (i:Nat):Bool:=(List.range 16).any fun j=>p (16*i+j)
def ownB (p:Nat→Bool) (i:Nat):List Bool:=(List.range 16).map fun j=>p (16*i+j)
def ownsB (p:Nat→Bool):Nat→List Bool
 | 0=>[]
 | k+1=>(if hasG p (15-k)=true then ownB p (15-k) else [])++ownsB p k
def groupsB (p:Nat→Bool):List Bool:=(List.range 16).map (hasG p)
def usedB (p:Nat→Bool):List Bool:=groupsB p++ownsB p 16
theorem y5m (i:Nat):List.range (16*(i+1))=List.range (16*i)++(List.range 16).map fun k=>16*i+k:=by
 rw [Nat.mul_add,List.range_add]
theorem x1x (p:Nat→Bool) (i:Nat):ownBytes i (vf (fun j=>p (16*i+j)) 16)=((List.range 16).map fun k=>16*i+k).filter p:=by
 unfold ownBytes
 rw [List.filter_map]
 congr 1
 refine List.filter_congr fun k hk=>?_
 rw [List.mem_range] at hk
 exact test_vf (fun j=>p (16*i+j)) 16 k hk
theorem x5v (p:Nat→Bool) (i:Nat) (h:hasG p i=false):((List.range 16).map fun k=>16*i+k).filter p=[]:=by
 rw [List.filter_eq_nil_iff]
 intro c hc
 obtain ⟨k,hk,rfl⟩:=List.mem_map.1 hc
 unfold hasG at h
 rw [List.any_eq_false] at h
 exact h k hk
theorem y2i (p:Nat→Bool) {I:In}:∀ (k q:Nat),k≤16→Lies I q (ownsB p k)→useds (vf (hasG p) 16) k ((List.range (16*(16-k))).filter p) I q=.ok ((List.range 256).filter p) (q+(ownsB p k).length)
 | 0,q,_,h=>by rw [useds];rfl
 | k+1,q,hk,h=>by
  have ht:(vf (hasG p) 16).testBit k=hasG p (15-k):=by
   have:=test_vf (hasG p) 16 (15-k) (by omega)
   rw [show 16-1-(15-k)=k by omega] at this
   exact this
  rw [useds,ht]
  rw [ownsB] at h ⊢
  have hr:=y5m (15-k)
  rw [show 15-k+1=16-k by omega] at hr
  rw [show 16-(k+1)=15-k by omega]
  by_cases hg:hasG p (15-k)=true
  ·rw [if_pos hg] at h ⊢
   rw [if_pos hg]
   have h1:=z7q h.left
   rw [z0j h1,x1x,←List.filter_append,←hr]
   have h2:=h.right
   have hl:(ownB p (15-k)).length=16:=by simp [ownB]
   rw [hl] at h2
   rw [y2i p k _ (by omega) h2,List.length_append,hl,Nat.add_assoc]
  ·rw [if_neg hg] at h ⊢
   rw [if_neg hg]
   have:=y2i p k q (by omega) h
   rw [hr,List.filter_append,x5v p _ (by simpa using hg),List.append_nil] at this
   exact this
theorem x7i (p:Nat→Bool) {I:In} {q:Nat} (h:Lies I q (usedB p)) (hne:(List.range 256).filter p≠[]):usedR I q=.ok ((List.range 256).filter p) (q+(usedB p).length):=by
 unfold usedR
 unfold usedB at h ⊢
 have h1:=z7q h.left
 have h2:=h.right
 have hl:(groupsB p).length=16:=by simp [groupsB]
 rw [hl] at h2
 have h3:useds (vf (hasG p) 16) 16 [] I (q+16)=_:=y2i p 16 _ (by omega) h2
 rw [z0j h1,z0j h3,if_neg hne,List.length_append,hl,Nat.add_assoc]
 rfl
/-! ### selectors that all choose the first table -/
theorem y8m {l:List Nat} (h:l≠[]):z0k l 0=l:=by
 cases l with
 | nil=>exact absurd rfl h
 | cons x r=>rfl
theorem x3b (t:Nat) (ht:1≤t) {I:In}:∀ (n q:Nat) (l out:List Nat),l≠[]→Lies I q (List.replicate n false)→sels t n l out I q=.ok (out++List.replicate n (l.getD 0 0)) (q+n)
 | 0,q,l,out,_,_=>by rw [sels];simp [Rd.pure]
 | n+1,q,l,out,hl,h=>by
  rw [List.replicate_succ] at h
  obtain ⟨h1,h2⟩:=z3j h
  have hu:una t t I q=.ok 0 (q+1):=by
   obtain ⟨k,rfl⟩:∃k,t=k+1:=⟨t-1,by omega⟩
   rw [una,z0j h1,if_neg (by decide),Nat.sub_self]
   rfl
  rw [sels,z0j hu,y8m hl,x3b t ht n (q+1) l _ hl h2,List.replicate_succ]
  simp
  omega
theorem x9v (t s:Nat) (ht:1≤t) (hs:1≤s) (hs2:s<32768) {I:In} {q:Nat} (h:Lies I q (nbH s 15++List.replicate s false)):selR t I q=.ok (List.replicate s 0) (q+15+s):=by
 unfold selR
 have h2:=h.right
 rw [nbH_len] at h2
 rw [z0j (z2t h.left (by omega)),if_neg (by omega),x3b t ht s _ _ _ (by simp) h2]
 simp
/-! ### tables -/
def stepB (a b:Nat):List Bool:=if a≤b then (List.replicate (b-a) [true,false]).flatten else (List.replicate (a-b) [true,true]).flatten
def tabB:Nat→List Nat→List Bool
 | _,[]=>[]
 | a,b :: l=>stepB a b++false :: tabB b l
def tableF (l:List Nat):List Bool:=nbH (l.getD 0 0) 5++tabB (l.getD 0 0) l
theorem stepB_up {a b:Nat} (h:a<b):stepB a b=true :: false :: stepB (a+1) b:=by
 unfold stepB
 rw [if_pos (by omega),if_pos (by omega),show b-a=(b-(a+1))+1 by omega,List.replicate_succ,List.flatten_cons]
 rfl
theorem stepB_down {a b:Nat} (h:b<a):stepB a b=true :: true :: stepB (a-1) b:=by
 unfold stepB
 rw [if_neg (by omega),show a-b=(a-1-b)+1 by omega,List.replicate_succ,List.flatten_cons]
 by_cases e:a-1≤b
 ·rw [if_pos e,show a-1-b=0 by omega,show b-(a-1)=0 by omega]
  rfl
 ·rw [if_neg e]
  rfl
theorem stepB_self (a:Nat):stepB a a=[]:=by
 unfold stepB
 rw [if_pos (Nat.le_refl _),Nat.sub_self]
 rfl
theorem y5a {b:Nat} (hb:1≤b∧b≤20) {I:In}:∀ (d f a q:Nat) (L:List Bool),1≤a→a≤20→(a-b)+(b-a)≤d→d<f→Lies I q (stepB a b++false :: L)→len1 f a I q=.ok b (q+(stepB a b).length+1)∧Lies I (q+(stepB a b).length+1) L
 | d,0,a,q,L,_,_,_,hf,_=>by omega
 | d,f+1,a,q,L,h1,h2,hd,hf,h=>by
  rw [len1,if_neg (by omega)]
  rcases Nat.lt_trichotomy a b with e|e|e
  ·rw [stepB_up e] at h ⊢
   obtain ⟨k1,h⟩:=z3j h
   obtain ⟨k2,h⟩:=z3j h
   rw [z0j k1,if_neg (by decide),z0j k2,if_pos (by decide)]
   obtain ⟨k3,k4⟩:=y5a hb (d-1) f (a+1) (q+1+1) L (by omega) (by omega) (by omega) (by omega) h
   have:q+1+1+(stepB (a+1) b).length+1=q+(true :: false :: stepB (a+1) b).length+1:=by simp;omega
   rw [this] at k3 k4
   exact ⟨k3,k4⟩
  ·subst e
   rw [stepB_self] at h ⊢
   obtain ⟨k1,h⟩:=z3j h
   rw [z0j k1,if_pos (by decide)]
   exact ⟨rfl,h⟩
  ·rw [stepB_down e] at h ⊢
   obtain ⟨k1,h⟩:=z3j h
   obtain ⟨k2,h⟩:=z3j h
   rw [z0j k1,if_neg (by decide),z0j k2,if_neg (by decide)]
   obtain ⟨k3,k4⟩:=y5a hb (d-1) f (a-1) (q+1+1) L (by omega) (by omega) (by omega) (by omega) h
   have:q+1+1+(stepB (a-1) b).length+1=q+(true :: true :: stepB (a-1) b).length+1:=by simp;omega
   rw [this] at k3 k4
   exact ⟨k3,k4⟩
theorem y1d {I:In} (f:Nat) (hf:20<f):∀ (l:List Nat) (a q:Nat) (out:List Nat),1≤a→a≤20→(∀z∈l,1≤z∧z≤20)→Lies I q (tabB a l)→lens f l.length a out I q=.ok (out++l) (q+(tabB a l).length)
 | [],a,q,out,_,_,_,_=>by simp [lens,tabB,Rd.pure]
 | b :: l,a,q,out,h1,h2,hl,h=>by
  have hb:=hl b (List.mem_cons_self ..)
  rw [tabB] at h ⊢
  obtain ⟨k1,k2⟩:=y5a hb 19 f a q _ h1 h2 (by omega) (by omega) h
  rw [List.length_cons,lens,z0j k1,y1d f hf l b _ _ hb.1 hb.2 (fun z hz=>hl z (List.mem_cons_of_mem _ hz)) k2]
  simp
  omega
theorem getD_mem' {l:List Nat} {r:Nat} (h:r<l.length):l.getD r 0∈l:=by
 rw [List.getD_eq_getElem?_getD,List.getElem?_eq_getElem h]
 exact List.getElem_mem h
theorem x3k {I:In} {q:Nat} (f:Nat) (hf:20<f) (l:List Nat) (h0:1≤l.length) (hl:∀z∈l,1≤z∧z≤20) (h:Lies I q (tableF l)):tabR f l.length I q=.ok l (q+(tableF l).length):=by
 have ha:=hl _ (getD_mem' (l:=l) (r:=0) (by omega))
 unfold tabR
 unfold tableF at h ⊢
 have h2:=h.right
 rw [nbH_len] at h2
 rw [z0j (z2t h.left (by omega)),y1d f hf l _ _ _ ha.1 ha.2 hl h2,List.length_append,nbH_len,Nat.add_assoc]
 rfl
/-! ### symbols -/
theorem x3j (g:List Nat→(Nat→Bool)→Nat→Nat × Nat × Nat) {I:In} (ls:List Nat) (wb:Nat→List Bool) (cs:List (List Nat)) (s last:Nat) (hc:cs.getD 0 []=ls) (hw:∀x,x≤last→∀q,Lies I q (wb x)→word g ls I q=.ok x (q+(wb x).length)) :
  ∀ (r out:List Nat) (f q:Nat),(∀x∈r,x<last)→r.length<f→(out.length+r.length+1+49)/50≤s→Lies I q ((r++[last]).flatMap wb)→syms g cs (List.replicate s 0) last f out I q=.ok (out++r++[last]) (q+((r++[last]).flatMap wb).length)
 | [],out,0,q,_,hf,_,_=>by omega
 | x :: r,out,0,q,_,hf,_,_=>by omega
 | [],out,f+1,q,_,hf,hs,h=>by
  have hsel:(List.replicate s 0).getD (out.length/50) 0=0:=by
   rw [List.getD_eq_getElem?_getD,List.getElem?_replicate]
   split<;>rfl
  simp only [List.nil_append,List.flatMap_cons,List.flatMap_nil,List.append_nil] at h ⊢
  rw [syms,if_neg (by simp at hs ⊢;omega),hsel,hc,z0j (hw last (Nat.le_refl _) q h),if_pos rfl]
  rfl
 | x :: r,out,f+1,q,hr,hf,hs,h=>by
  have hx:=hr x (List.mem_cons_self ..)
  have hsel:(List.replicate s 0).getD (out.length/50) 0=0:=by
   rw [List.getD_eq_getElem?_getD,List.getElem?_replicate]
   split<;>rfl
  simp only [List.cons_append,List.flatMap_cons,List.length_cons] at h hs hf ⊢
  rw [syms,if_neg (by simp at hs ⊢;omega),hsel,hc,z0j (hw x (by omega) q h.left),if_neg (by omega)]
  rw [x3j g ls wb cs s last hc hw r (out++[x]) f _ (fun z hz=>hr z (List.mem_cons_of_mem _ hz)) (by omega) (by simp;omega) h.right]
  simp
  omega
end Bz
namespace Bz
open Infl R11.Runs X10
theorem symG_last (n:Nat) (hn:1≤n):∀ (ps:List Nat) (run:Nat),(∀p∈ps,p<n)→∃r,symG n ps run=r++[n+1]∧(∀x∈r,x<n+1)∧r.length≤ps.length+run:=by
 have hd:∀k,(∀x∈digits k,x<n+1)∧(digits k).length≤k:=by
  intro k
  induction k using Nat.strongRecOn with
  | ind k ih =>
   cases k with
   | zero=>simp [digits]
   | succ k =>
    have:=ih (k/2) (by omega)
    rw [digits]
    refine ⟨fun x hx=>?_,?_⟩
    ·rcases List.mem_cons.1 hx with rfl|hx
     ·omega
     ·exact this.1 x hx
    ·have:=this.2
     simp only [List.length_cons];omega
 intro ps
 induction ps with
 | nil=>intro run _;exact ⟨digits run,rfl,(hd run).1,by have:=(hd run).2;simpa using this⟩
 | cons p r ih =>
  intro run h
  have hp:=h p (List.mem_cons_self ..)
  rw [symG]
  by_cases e:p=0
  ·rw [if_pos e]
   obtain ⟨r',h1,h2,h3⟩:=ih (run+1) (fun x hx=>h x (List.mem_cons_of_mem _ hx))
   exact ⟨r',h1,h2,by simp only [List.length_cons];omega⟩
  ·rw [if_neg e]
   obtain ⟨r',h1,h2,h3⟩:=ih 0 (fun x hx=>h x (List.mem_cons_of_mem _ hx))
   refine ⟨digits run++(p+1) :: r',by rw [h1];simp,fun x hx=>?_,?_⟩
   ·rcases List.mem_append.1 hx with hx|hx
    ·exact (hd run).1 x hx
    ·rcases List.mem_cons.1 hx with rfl|hx
     ·omega
     ·exact h2 x hx
   ·have:=(hd run).2
    simp only [List.length_append,List.length_cons];omega
theorem y5w (b:List Nat) (most:Int) (h:(b.length:Int)≤most):z2v (z0p b) most=(b,0):=by
 unfold z2v
 rw [if_neg (by omega),y2g most b.length b 0 0 [] (Nat.le_refl _) (by omega) (.inl rfl) (by simpa using h)]
 simp
theorem tellB_ok (crc:List Nat→Nat) (level:Nat) (piece l:List Nat) (row:Nat) (room:Int) (hs:∀z∈z0p piece,z<256) (hl:Suf.IsRows (z0p piece) l) (hr:row<(z0p piece).length) (h0:l.getD row 0=0) (hm:(z0p piece).length≤100000*level) (hm2:(z0p piece).length≤1048576) (hroom:(piece.length:Int)≤room) :
  y2e crc level (z0o (Suf.col (z0p piece) l)) (symG (z0o (Suf.col (z0p piece) l)).length (z0n (Suf.col (z0p piece) l)) 0) row room (crc piece)=(piece,0):=by
 have hcl:(Suf.col (z0p piece) l).length=(z0p piece).length:=by rw [Suf.col,List.length_map,hl.len]
 have hcs:∀z∈Suf.col (z0p piece) l,z<256:=fun z hz=>hs z ((Suf.col_perm hl).mem_iff.1 hz)
 obtain ⟨c,hc⟩:∃c,c=Suf.col (z0p piece) l:=⟨_,rfl⟩
 rw [←hc] at hcl hcs ⊢
 have hall:∀z∈c,z∈z0o c:=fun z hz=>z5f.2 ⟨hcs z hz,hz⟩
 have hpos:1≤(z0o c).length:=by
  cases c with
  | nil=>simp at hcl;omega
  | cons x r=>exact List.length_pos_of_mem (hall x (List.mem_cons_self ..))
 have h1:=y5h (z0o c).length ((100000*level:Nat):Int) (z0n c) 0 [] (z4f c (z0o c) hall) hpos (by unfold z0n;rw [z1u,hcl];simp;omega) (by unfold z0n;rw [z1u,hcl];omega)
 have h2:unf (z0o c) ((z0n c).map fun k:Nat=>(k:Int)) []=(c,0):=by
  have:=y4k c (z0o c) [] hall
  rw [List.nil_append] at this
  exact this
 have h3:Suf.back c (Suf.nextF c 256) row=z0p piece:=by
  rw [hc]
  exact Suf.back_is hl (Suf.nextF_is (fun z hz=>hs z ((Suf.col_perm hl).mem_iff.1 hz))) hr h0
 have h4:=y5w piece room hroom
 unfold y2e
 rw [h1]
 simp only [List.nil_append,List.replicate_zero,h2,h3,h4]
 rw [if_neg (by omega)]
 simp
def blockB (wb:Nat→List Bool) (sum row:Nat) (p:Nat→Bool) (s:Nat) (ls ss:List Nat):List Bool :=
 nbH sum 32++(false :: (nbH row 24++(usedB p++(nbH 2 3++((nbH s 15++List.replicate s false)++(tableF ls++(tableF ls++ss.flatMap wb)))))))
section
variable (g:List Nat→(Nat→Bool)→Nat→Nat × Nat × Nat) (ce:List Nat→Nat→Bool→Nat) (crc:List Nat→Nat)
theorem blockR_ok {I:In} (f level most:Nat) (out:List Nat) (wb:Nat→List Bool) (sum row:Nat) (p:Nat→Bool) (ls r piece:List Nat) (q:Nat) (u:List Nat) (hu:u=(List.range 256).filter p)
  (hsum:sum<2^32) (hrow:row<2^24) (hne:u≠[]) (hls:ls.length=u.length+2) (hl:∀z∈ls,1≤z∧z≤20) (hce:ce ls 20 false=0) (hr:∀x∈r,x<u.length+1) (hs:r.length<1600000) (hf:20<f) (hf2:r.length<f)
  (hw:∀x,x≤u.length+1→∀q,Lies I q (wb x)→word g ls I q=.ok x (q+(wb x).length))
  (ht:y2e crc level u (r++[u.length+1]) row ((most:Int)-(out.length:Int)) sum=(piece,0))
  (h:Lies I q (blockB wb sum row p ((r.length+1+49)/50) ls (r++[u.length+1]))) :
  blockR g ce crc f level most out I q=.ok (sum,out++piece) (q+(blockB wb sum row p ((r.length+1+49)/50) ls (r++[u.length+1])).length):=by
 unfold blockB at h ⊢
 obtain ⟨s,hS⟩:∃s,s=(r.length+1+49)/50:=⟨_,rfl⟩
 rw [←hS] at h ⊢
 unfold blockR
 have h1:=h.right
 rw [nbH_len] at h1
 rw [z0j (z2t h.left hsum)]
 obtain ⟨k1,h2⟩:=z3j h1
 rw [z0j k1,if_neg (by decide),z0j (z2t h2.left hrow)]
 have h3:=h2.right
 rw [nbH_len] at h3
 have h4:=h3.right
 rw [z0j (x7i p h3.left (by rw [←hu];exact hne)),←hu]
 rw [z0j (z2t h4.left (by decide)),if_neg (by decide)]
 have h5:=h4.right
 rw [nbH_len] at h5
 rw [z0j (x9v 2 s (by decide) (by omega) (by omega) h5.left)]
 have h6:=h5.right
 have hl5:(nbH s 15++List.replicate s false).length=15+s:=by rw [List.length_append,nbH_len,List.length_replicate]
 rw [hl5,←Nat.add_assoc] at h6
 have h7:=h6.right
 have h8:=h7.right
 have t1:=x3k f hf ls (by omega) hl h6.left
 have t2:=x3k f hf ls (by omega) hl h7.left
 rw [hls] at t1 t2
 have ht2:tabs f (u.length+2) 2 [] I (q+32+1+24+(usedB p).length+3+15+s)=.ok [ls,ls] (q+32+1+24+(usedB p).length+3+15+s+(tableF ls).length+(tableF ls).length):=by
  rw [tabs,z0j t1,tabs,z0j t2]
  rfl
 rw [z0j ht2]
 have hcE:z6e ce [ls,ls]=0:=by rw [z6e,if_pos hce,z6e,if_pos hce,z6e]
 rw [hcE]
 have hsy:=x3j g ls wb [ls,ls] s (u.length+1) rfl hw r [] f _ hr hf2 (by rw [hS];simp) h8
 rw [List.nil_append] at hsy
 unfold okE
 rw [if_pos rfl,z0j hsy,ht,if_pos rfl]
 unfold Rd.pure
 congr 1
 simp only [List.length_append,List.length_cons,nbH_len,List.length_replicate]
 omega
end
end Bz
namespace Bz
open Infl R11.Runs X10
theorem x2x {s:Nat} (h:s<4294967296):rot1 s<4294967296:=by
 unfold rot1
 exact Nat.or_lt_two_pow (n:=32) (by omega) (by omega)
theorem y6k:∀ (l:List Nat) (s:Nat),s<4294967296→(∀x∈l,x<4294967296)→l.foldl (fun s x=>rot1 s ^^^ x) s<4294967296
 | [],s,h,_=>h
 | x :: l,s,h,hl=>by
  rw [List.foldl_cons]
  refine y6k l _ ?_ (fun z hz=>hl z (List.mem_cons_of_mem _ hz))
  exact Nat.xor_lt_two_pow (n:=32) (x2x h) (hl x (List.mem_cons_self ..))
theorem sumF_lt {l:List Nat} (h:∀x∈l,x<4294967296):sumF l<4294967296:=y6k l 0 (by decide) h
structure Blk where
 bits:List Bool
 sum:Nat
 piece:List Nat
def blksB:List Blk→List Bool
 | []=>[]
 | b :: r=>nbH 0x314159265359 48++(b.bits++blksB r)
def textB:List Blk→List Nat
 | []=>[]
 | b :: r=>b.piece++textB r
def streamB (level:Nat) (bs:List Blk):List Bool:=nbH 0x425a68 24++(nbH (48+level) 8++(blksB bs++(nbH 0x177245385090 48++nbH (sumF (bs.map Blk.sum)) 32)))
section
variable (g:List Nat→(Nat→Bool)→Nat→Nat × Nat × Nat) (ce:List Nat→Nat→Bool→Nat) (crc:List Nat→Nat)
structure Blk.Ok (f level:Nat) (b:Blk):Prop where
 sum:b.sum<4294967296
 read:∀ (I:In) (most:Nat) (out:List Nat) (q:Nat),out.length+b.piece.length≤most→Lies I q b.bits→blockR g ce crc f level most out I q=.ok (b.sum,out++b.piece) (q+b.bits.length)
theorem z9o {I:In} (f level most:Nat):∀ (bs:List Blk) (k:Nat) (sums out:List Nat) (q:Nat),(∀b∈bs,Blk.Ok g ce crc f level b)→(∀x∈sums,x<4294967296)→bs.length<k→out.length+(textB bs).length≤most →
  Lies I q (blksB bs++(nbH 0x177245385090 48++nbH (sumF (sums++bs.map Blk.sum)) 32))→blocksR g ce crc f level most k sums out I q=.ok (out++textB bs) ((q+(blksB bs).length+80+7)/8*8)
 | bs,0,sums,out,q,_,_,hk,_,_=>by omega
 | [],k+1,sums,out,q,_,hs,hk,hm,h=>by
  simp only [blksB,List.nil_append,List.map_nil,List.append_nil] at h
  have h1:=h.right
  rw [nbH_len] at h1
  rw [blocksR,z0j (z2t h.left (by decide)),if_neg (by decide),if_pos rfl,z0j (z2t h1 (sumF_lt hs)),if_neg (by simp)]
  simp [Infl.align,Rd.bind,Rd.pure,blksB,textB,Nat.add_assoc]
 | b :: r,k+1,sums,out,q,hb,hs,hk,hm,h=>by
  have hok:=hb b (List.mem_cons_self ..)
  rw [blksB,List.append_assoc,List.append_assoc] at h
  rw [textB,List.length_append] at hm
  have h1:=h.right
  rw [nbH_len] at h1
  rw [blocksR,z0j (z2t h.left (by decide)),if_pos rfl,z0j (hok.read I most out _ (by omega) h1.left)]
  have h2:=h1.right
  rw [List.map_cons,show sums++b.sum :: r.map Blk.sum=(sums++[b.sum])++r.map Blk.sum by simp] at h2
  rw [z9o f level most r k (sums++[b.sum]) (out++b.piece) _ (fun z hz=>hb z (List.mem_cons_of_mem _ hz)) (fun x hx=>by
   rcases List.mem_append.1 hx with hx|hx
   ·exact hs x hx
   ·rw [List.mem_singleton] at hx;rw [hx];exact hok.sum) (by simpa using hk) (by rw [List.length_append];omega) h2]
  rw [textB,blksB]
  simp only [List.length_append,nbH_len,List.append_assoc]
  congr 2
  omega
theorem y9j {I:In} (f level most:Nat) (bs:List Blk) (out:List Nat) (q:Nat) (hl:1≤level∧level≤9) (hb:∀b∈bs,Blk.Ok g ce crc f level b) (hf:bs.length<f) (hm:out.length+(textB bs).length≤most) (h:Lies I q (streamB level bs)) :
  streamR g ce crc f most out I q=.ok (out++textB bs) ((q+(streamB level bs).length+7)/8*8):=by
 unfold streamB at h ⊢
 have h1:=h.right
 rw [nbH_len] at h1
 have h2:=h1.right
 rw [nbH_len] at h2
 unfold streamR
 rw [z0j (z2t h.left (by decide)),if_neg (by decide),z0j (z2t h1.left (by omega)),if_neg (by omega),show 48+level-48=level by omega]
 rw [z9o g ce crc f level most bs f [] out _ hb (fun x hx=>by simp at hx) hf hm (by simpa using h2)]
 simp only [List.length_append,nbH_len]
 congr 2
 omega
theorem streams_last {I:In} (f level most:Nat) (bs:List Blk) (out:List Nat) (q k:Nat) (hl:1≤level∧level≤9) (hb:∀b∈bs,Blk.Ok g ce crc f level b) (hf:bs.length<f) (hm:out.length+(textB bs).length≤most) (h:Lies I q (streamB level bs)) (he:I.m≤(q+(streamB level bs).length+7)/8*8) :
  streamsR g ce crc f most (k+1) out I q=.ok (out++textB bs) ((q+(streamB level bs).length+7)/8*8):=by
 rw [streamsR,z0j (y9j g ce crc f level most bs out q hl hb hf hm h),if_pos he]
/-! ### more rounds tell the same -/
end
/-! ### bits as bytes -/
def bytesH (b:List Nat):In:=⟨fun i=>(b.getD (i/8) 0).testBit (7-i%8),b.length⟩
def packH (L:List Bool):List Nat:=(List.range ((L.length+7)/8)).map fun i=>vf (fun j=>L.getD (8*i+j) false) 8
theorem packH_len (L:List Bool):(packH L).length=(L.length+7)/8:=by simp [packH]
theorem packH_small (L:List Bool):∀z∈packH L,z<256:=fun z hz=>by
 obtain ⟨i,_,rfl⟩:=List.mem_map.1 hz
 exact vf_lt _ 8
theorem packH_lies (X Y:List Nat) (L:List Bool):Lies (bytesH (X++(packH L++Y))) (8*X.length) L:=by
 refine ⟨?_,fun i hi=>?_⟩
 ·show _≤8*(X++(packH L++Y)).length
  rw [List.length_append,List.length_append,packH_len];omega
 ·show ((X++(packH L++Y)).getD ((8*X.length+i)/8) 0).testBit (7-(8*X.length+i)%8)=_
  have e1:(8*X.length+i)/8=X.length+i/8:=by omega
  have e2:(8*X.length+i)%8=i%8:=by omega
  rw [e1,e2,List.getD_eq_getElem?_getD,List.getElem?_append_right (by omega),Nat.add_sub_cancel_left,List.getElem?_append_left (by rw [packH_len];omega)]
  unfold packH
  rw [List.getElem?_map,List.getElem?_range (by omega),Option.map_some,Option.getD_some]
  have:=test_vf (fun j=>L.getD (8*(i/8)+j) false) 8 (i%8) (by omega)
  rw [show 8-1-i%8=7-i%8 by omega] at this
  rw [this,show 8*(i/8)+i%8=i by omega]
end Bz
namespace Bz
open Infl R11.Runs X10
def runOn (run last c:Nat):Nat:=if 0<run∧run<259∧c=last then run+1 else 1
def ownC (run:Nat):Nat:=if run=4 then 2 else if 4<run then 0 else 1
def costG:Nat→Nat→List Nat→Nat
 | _,_,[]=>0
 | run,last,c :: r=>ownC (runOn run last c)+costG (runOn run last c) c r
def cutG:Nat→Nat→Nat→List Nat→Nat
 | _,_,_,[]=>0
 | m,run,last,c :: r=>if m<ownC (runOn run last c) then 0 else cutG (m-ownC (runOn run last c)) (runOn run last c) c r+1
theorem runOn_new (last c:Nat):runOn 0 last c=1:=by unfold runOn;rw [if_neg (by omega)]
theorem runOn_full (last c:Nat):runOn 259 last c=1:=by unfold runOn;rw [if_neg (by omega)]
theorem runOn_other {run last c:Nat} (h:c≠last):runOn run last c=1:=by unfold runOn;rw [if_neg (fun q=>h q.2.2)]
theorem runOn_like {run c:Nat} (h0:0<run) (h:run<259):runOn run c c=run+1:=by unfold runOn;rw [if_pos ⟨h0,h,rfl⟩]
theorem x0g (l:List Nat) (run last:Nat) (h:run=259∨∀c r,l=c :: r→c≠last):costG run last l=costG 0 0 l:=by
 cases l with
 | nil=>rfl
 | cons c r =>
  rw [costG,costG,runOn_new]
  rcases h with rfl|h
  ·rw [runOn_full]
  ·rw [runOn_other (h c r rfl)]
theorem y6h (c:Nat) (rest:List Nat):∀ (k run:Nat),1≤run→run+k≤259→costG run c (List.replicate k c++rest)+(if run<4 then run else 5)=(if run+k<4 then run+k else 5)+costG (run+k) c rest
 | 0,run,_,_=>by simp;omega
 | k+1,run,h1,h2=>by
  have h3:=y6h c rest k (run+1) (by omega) (by omega)
  rw [List.replicate_succ,List.cons_append,costG,runOn_like (by omega) (by omega)]
  rw [show run+(k+1)=run+1+k by omega]
  unfold ownC
  by_cases e1:run+1=4
  ·rw [if_pos e1]
   rw [if_neg (show ¬run+1<4 by omega)] at h3
   rw [if_pos (show run<4 by omega)]
   omega
  ·rw [if_neg e1]
   by_cases e2:4<run+1
   ·rw [if_pos e2]
    rw [if_neg (show ¬run+1<4 by omega)] at h3
    rw [if_neg (show ¬run<4 by omega)]
    omega
   ·rw [if_neg e2]
    rw [if_pos (show run+1<4 by omega)] at h3
    rw [if_pos (show run<4 by omega)]
    omega
theorem pack_cost:∀ (k:Nat) (b:List Nat),b.length≤k→(z0p b).length=costG 0 0 b
 | k,[],_=>by simp [z0p,z6s,costG]
 | 0,c :: l,h=>by simp at h
 | k+1,c :: l,h=>by
  have h1:=z4p c 258 l
  have h2:=y3c c 258 l
  obtain ⟨n,hn⟩:∃n,n=lead c 258 l:=⟨_,rfl⟩
  rw [z3c,List.length_append,pack_cost k _ (by simp at h ⊢;omega)]
  have hst:=z7y c 258 l
  rw [←hn] at h1 h2 hst ⊢
  have h3:=y6h c (l.drop n) n 1 (by omega) (by omega)
  rw [costG,runOn_new]
  conv=>rhs;rw [h2]
  have h4:costG (1+n) c (l.drop n)=costG 0 0 (l.drop n):=x0g _ _ _ (by
   by_cases e:n=258
   ·left;omega
   ·right
    intro x r hx
    have hlt:n<l.length:=by
     rcases Nat.lt_or_ge n l.length with h|h
     ·exact h
     ·rw [List.drop_eq_nil_of_le h] at hx;cases hx
    have:=hst (by omega) hlt
    have e2:l.getD n 0=x:=by
     have:=congrArg List.head? hx
     rw [List.head?_drop] at this
     rw [List.getD_eq_getElem?_getD,this];rfl
    rw [←e2];exact this)
  rw [h4] at h3
  have h5:(piece c (n+1)).length=if 1+n<4 then 1+n else 5:=by
   unfold piece
   split
   ·rw [if_pos (by omega)];simp;omega
   ·rw [if_neg (by omega)];simp
  rw [h5]
  have h6:ownC 1=1:=rfl
  rw [h6]
  simp at h3
  omega
theorem cut_le:∀ (l:List Nat) (m run last:Nat),cutG m run last l≤l.length
 | [],_,_,_=>by simp [cutG]
 | c :: r,m,run,last=>by
  rw [cutG]
  split
  ·omega
  ·have:=cut_le r (m-ownC (runOn run last c)) (runOn run last c) c
   simp only [List.length_cons];omega
theorem y6i:∀ (l:List Nat) (m run last:Nat),costG run last (l.take (cutG m run last l))≤m
 | [],_,_,_=>by simp [costG]
 | c :: r,m,run,last=>by
  rw [cutG]
  split
  ·simp [costG]
  ·have:=y6i r (m-ownC (runOn run last c)) (runOn run last c) c
   rw [List.take_succ_cons,costG]
   omega
theorem cut_pos {m c:Nat} {r:List Nat} (h:1≤m):1≤cutG m 0 0 (c :: r):=by
 rw [cutG,runOn_new,if_neg (by unfold ownC;simp;omega)]
 omega
def z3x (m:Nat):Nat→List Nat→List (List Nat)
 | 0,_=>[]
 | _+1,[]=>[]
 | f+1,c :: r=>(c :: r).take (cutG m 0 0 (c :: r)) :: z3x m f ((c :: r).drop (cutG m 0 0 (c :: r)))
def piecesF (m:Nat) (b:List Nat):List (List Nat):=z3x m b.length b
theorem z6k (m:Nat) (hm:1≤m):∀ (f f':Nat) (l:List Nat),l.length≤f→l.length≤f'→z3x m f l=z3x m f' l
 | 0,f',l,h,_=>by
  obtain rfl:l=[]:=List.eq_nil_of_length_eq_zero (by omega)
  cases f'<;>rfl
 | f+1,f',[],_,_=>by cases f'<;>rfl
 | f+1,0,c :: r,_,h=>by simp at h
 | f+1,f'+1,c :: r,h1,h2=>by
  have h3:=cut_pos (c:=c) (r:=r) hm
  rw [z3x,z3x,z6k m hm f f' _ (by simp at h1 ⊢;omega) (by simp at h2 ⊢;omega)]
theorem piecesF_nil (m:Nat):piecesF m []=[]:=rfl
theorem piecesF_cons (m:Nat) (hm:1≤m) (b:List Nat) (h:b≠[]):piecesF m b=b.take (cutG m 0 0 b) :: piecesF m (b.drop (cutG m 0 0 b)):=by
 cases b with
 | nil=>exact absurd rfl h
 | cons c r =>
  have h3:=cut_pos (c:=c) (r:=r) hm
  unfold piecesF
  show z3x m (r.length+1) (c :: r)=_
  rw [z3x,z6k m hm r.length _ _ (by simp;omega) (Nat.le_refl _)]
theorem pieces_all (m:Nat) (hm:1≤m):∀ (k:Nat) (b:List Nat),b.length≤k→(piecesF m b).flatten=b∧∀p∈piecesF m b,p≠[]∧(z0p p).length≤m∧(∀z∈p,z∈b)
 | k,[],_=>by rw [piecesF_nil];simp
 | 0,c :: r,h=>by simp at h
 | k+1,c :: r,h=>by
  have h3:=cut_pos (c:=c) (r:=r) hm
  obtain ⟨h1,h2⟩:=pieces_all m hm k ((c :: r).drop (cutG m 0 0 (c :: r))) (by simp at h ⊢;omega)
  rw [piecesF_cons m hm (c :: r) (by simp)]
  refine ⟨by rw [List.flatten_cons,h1,List.take_append_drop],fun p hp=>?_⟩
  rcases List.mem_cons.1 hp with rfl|hp
  ·refine ⟨?_,?_,fun z hz=>List.mem_of_mem_take hz⟩
   ·intro e
    have:=congrArg List.length e
    rw [List.length_take] at this
    simp at this
    omega
   ·rw [pack_cost _ _ (Nat.le_refl _)]
    exact y6i _ _ _ _
  ·obtain ⟨q1,q2,q3⟩:=h2 p hp
   exact ⟨q1,q2,fun z hz=>List.mem_of_mem_drop (q3 z hz)⟩
end Bz
namespace R11
open Go.RowKit Runs
theorem qz {p:Prop} (h:p):Hid p:=h
theorem uh {p:Prop} (h:Hid p):p:=h
theorem z7b (a n:Nat):(a:Int).tmod (n:Int)=((a%n:Nat):Int):=rfl
def iv (z:Int):Value:=.int .i64 z
theorem info3':(Tryz.prog.info? 3).map (fun i=>(i.zero,i.size,i.bytes))=some (some (.int .i64 0),1,8):=by kernel_rfl
theorem cell_lt {w:World} {p:Addr} {u:Value} (h:w.cell? p=some u):p.block<w.heap.size:=by
 rcases Nat.lt_or_ge p.block w.heap.size with h'|h'
 ·exact h'
 ·simp [World.cell?,Array.getElem?_eq_none h'] at h
structure St (w0 w:World) (v:Value) (xs:List Value):Prop where
 own:w.ownsRow w0.heap.size 3 1 v xs.length xs
 bel:Below w0.heap.size w0 w
theorem y7s {ops:Array Oper} {rest:List Oper} {o:Oper} {a:Act} {Q:Exit→Act→World→Prop} {w0 ws:World} (hgd:o.guard=none) (s x:Operand)
  (ho:o.op=.call { callee:=.builtin .append,args:=#[s,x],argTypes:=#[49,49] }) (va:Value) (xs:List Value) (X:Int) (hs:a.eval s=va) (hx:a.eval x=.slice (some ⟨ws.heap.size,0,none⟩) 1 1)
  (hA:St w0 ws va xs) (hlen:(xs.length+1)*8≤140737488355328)
  (h:∀v' w',St w0 w' v' (xs++[iv X])→wpList Tryz.prog ops Q rest (a.put o.dst v') w'):wpList Tryz.prog ops Q (o :: rest) a (ws.alloc (.cells #[iv X] 3)):=by
 obtain ⟨i0,hi,hz0,hz1,hz2⟩:=info_parts info3'
 refine wpList_append_own_at (ws.alloc (.cells #[iv X] 3)) hgd s x 49 ho w0.heap.size 3 i0 (.int .i64 0) 1 8 Tryz.underlying49 hi hz0 hz1 hz2 rfl (by decide) va xs.length xs hs (hA.own.alloc _) ⟨ws.heap.size,0,none⟩ 1 1 [iv X] hx rfl ?_ (by intro u hu;rw [List.mem_singleton] at hu;subst hu;rfl) (by unfold maxLen;omega) hlen (by have:=hA.bel.size;simp;omega) ?_
 ·intro j u hj
  cases j with
  | zero =>
   have e:(⟨ws.heap.size,0,none⟩:Addr).add 0=⟨ws.heap.size,0,none⟩:=by simp [Addr.add]
   rw [e]
   simp only [World.cell?,heap_alloc_new]
   simpa using hj
  | succ j=>simp at hj
 ·intro v' w' h2 h3 _ h5
  exact h v' w' ⟨by rw [List.length_append];exact h2,(hA.bel.alloc hA.bel.size _).grown h3 (by have:=hA.bel.size;simp;omega) (fun k e=>(hA.own.lt k e).1)⟩
def bv (z:Nat):Value:=.int .u8 (z:Int)
theorem info5:(Tryz.prog.info? 5).map (fun i=>(i.zero,i.size,i.bytes))=some (some (.int .u8 0),1,1):=by kernel_rfl
structure StB (w0 w:World) (v:Value) (xs:List Nat):Prop where
 own:w.ownsRow w0.heap.size 5 1 v xs.length (xs.map bv)
 bel:Below w0.heap.size w0 w
theorem StB.nil (w:World):StB w w (.slice none 0 0) []:=⟨World.ownsRow_nil _ _ _ _,Below.refl _ _⟩
theorem y6a {ops:Array Oper} {rest:List Oper} {o:Oper} {a:Act} {Q:Exit→Act→World→Prop} {w0 ws:World} (hgd:o.guard=none) (s x:Operand)
  (ho:o.op=.call { callee:=.builtin .append,args:=#[s,x],argTypes:=#[22,22] }) (va:Value) (xs:List Nat) (X:Nat) (hs:a.eval s=va) (hx:a.eval x=.slice (some ⟨ws.heap.size,0,none⟩) 1 1)
  (hA:StB w0 ws va xs) (hlen:(xs.length+1)*8≤140737488355328)
  (h:∀v' w',StB w0 w' v' (xs++[X])→(∀k,k<ws.heap.size→va.ownBlock≠some k→w'.heap[k]?=ws.heap[k]?)→ws.heap.size≤w'.heap.size→(∀b,v'.ownBlock=some b→va.ownBlock=some b∨ws.heap.size≤b)→wpList Tryz.prog ops Q rest (a.put o.dst v') w'):wpList Tryz.prog ops Q (o :: rest) a (ws.alloc (.cells #[bv X] 5)):=by
 obtain ⟨i0,hi,hz0,hz1,hz2⟩:=info_parts info5
 refine wpList_append_own_at (ws.alloc (.cells #[bv X] 5)) hgd s x 22 ho w0.heap.size 5 i0 (.int .u8 0) 1 1 Tryz.underlying22 hi hz0 hz1 hz2 rfl (by decide) va xs.length (xs.map bv) hs (hA.own.alloc _) ⟨ws.heap.size,0,none⟩ 1 1 [bv X] hx rfl ?_ (by intro u hu;rw [List.mem_singleton] at hu;subst hu;rfl) (by unfold maxLen;omega) (by omega) (by have:=hA.bel.size;simp;omega) ?_
 ·intro j u hj
  cases j with
  | zero =>
   have e:(⟨ws.heap.size,0,none⟩:Addr).add 0=⟨ws.heap.size,0,none⟩:=by simp [Addr.add]
   rw [e]
   simp only [World.cell?,heap_alloc_new]
   simpa using hj
  | succ j=>simp at hj
 ·intro v' w' h2 h3 _ h5
  refine h v' w' ⟨by rw [List.length_append,List.map_append];exact h2,(hA.bel.alloc hA.bel.size _).grown h3 (by have:=hA.bel.size;simp;omega) (fun k e=>(hA.own.lt k e).1)⟩ (fun k hk hne=>?_) (by have:=h3.size;simp at this;omega) (fun b e=>?_)
  ·rw [h3.block k (by simp;omega) (fun e=>hne e.symm),Below.heap_alloc _ _ _ hk]
  ·rcases h5 with h5|h5
   ·exact .inl (by rw [←h5,e])
   ·rw [e] at h5;have:=Option.some.inj h5;simp at this;exact .inr (by omega)
theorem own_keep {w w':World} {base e size n:Nat} {v:Value} {xs:List Value} (h:w.ownsRow base e size v n xs) (h2:∀g,v.ownBlock=some g→w'.heap[g]?=w.heap[g]?):w'.ownsRow base e size v n xs:=by
 obtain ⟨hl,hr⟩:=h
 refine ⟨hl,?_⟩
 rcases hr with e|⟨g,cap,cur,e,hb,hh,r⟩
 ·exact .inl e
 ·exact .inr ⟨g,cap,cur,e,hb,by rw [h2 g (by rw [e];rfl)];exact hh,r⟩
def BytesIn (w:World) (a0:Option Addr) (b:List Nat):Prop:=∀j,j<b.length→∃g off,a0=some ⟨g,off,none⟩∧w.cell? ⟨g,off+j,none⟩=some (.int .u8 ((b.getD j 0:Nat):Int))
theorem BytesIn.stays {w w':World} {a0:Option Addr} {b:List Nat} (h:BytesIn w a0 b) (hb:Below w.heap.size w w'):BytesIn w' a0 b:=fun j hj=>by
 obtain ⟨g,off,e,hc⟩:=h j hj
 exact ⟨g,off,e,by rw [hb.cell (cell_lt hc)];exact hc⟩
theorem getD_mem {l:List Nat} {r:Nat} (h:r<l.length):l.getD r 0∈l:=by
 rw [List.getD_eq_getElem?_getD,List.getElem?_eq_getElem h]
 exact List.getElem_mem h
theorem z0t {B:Nat} {w x:World} (h:Below B w x) (q:Nat):Below B w (x.drewN q):=⟨h.os,h.tape,h.output,h.size,h.block⟩
theorem StB.drewN {w0 w:World} {v:Value} {xs:List Nat} (h:StB w0 w v xs) (q:Nat):StB w0 (w.drewN q) v xs:=⟨h.own,z0t h.bel q⟩
theorem StB.len {w0 w:World} {v:Value} {xs:List Nat} (h:StB w0 w v xs):∃a c,v=.slice a xs.length c:=by
 rcases h.own.2 with ⟨e1,e2⟩|⟨g,cap,cur,e1,_⟩
 ·exact ⟨none,0,by rw [e1,e2]⟩
 ·exact ⟨_,_,e1⟩
theorem St.len {w0 w:World} {v:Value} {xs:List Value} (h:St w0 w v xs):∃a c,v=.slice a xs.length c:=by
 rcases h.own.2 with ⟨e1,e2⟩|⟨g,cap,cur,e1,_⟩
 ·exact ⟨none,0,by rw [e1,e2]⟩
 ·exact ⟨_,_,e1⟩
end R11
namespace B4.Mth
def mk (f:Nat→Bool):Nat→Nat
 | 0=>0
 | n+1=>mk f n ||| ((f n).toNat <<< n)
theorem z1r (b:Bool) (n r:Nat):(b.toNat <<< n).testBit r=(b && decide (r=n)):=by
 rw [Nat.testBit_shiftLeft]
 cases b with
 | false=>simp
 | true =>
  by_cases h:r=n
  ·subst h;simp
  ·by_cases h2:n≤r
   ·obtain ⟨d,hd⟩:∃d,r-n=d+1:=⟨r-n-1,by omega⟩
    simp [h,h2,hd,Nat.testBit_succ]
   ·simp [h,h2]
theorem z9y (f:Nat→Bool) (n r:Nat):(mk f n).testBit r=(decide (r<n) && f r):=by
 induction n with
 | zero=>simp [mk]
 | succ n ih =>
  rw [mk,Nat.testBit_or,ih,z1r]
  by_cases h:r=n
  ·subst h;simp
  ·by_cases h2:r<n
   ·have:r<n+1:=by omega
    simp [h,h2,this]
   ·have:¬r<n+1:=by omega
    simp [h,h2,this]
theorem w2k (f:Nat→Bool) (n:Nat):mk f n<2^n:=by
 apply Nat.lt_pow_two_of_testBit
 intro i hi
 rw [z9y]
 have:¬i<n:=by omega
 simp [this]
def rk (high:Bool) (n i:Nat):Nat:=if high then n-1-i else i
theorem z5v {high:Bool} {n i:Nat} (h:i<n):rk high n i<n:=by unfold rk;split<;>omega
theorem y9d {high:Bool} {n i:Nat} (h:i<n):rk high n (rk high n i)=i:=by unfold rk;split<;>omega
def bitsOf (high:Bool) (v n:Nat):List Bool:=(List.range n).map fun i=>v.testBit (rk high n i)
theorem z1n (high:Bool) (v n:Nat):(bitsOf high v n).length=n:=by simp [bitsOf]
theorem y8b (high:Bool) (v n i:Nat) (h:i<n):(bitsOf high v n)[i]?=some (v.testBit (rk high n i)):=by
 simp [bitsOf,h]
theorem z6q (high:Bool) (v n k:Nat) (h:k<n) :
  (bitsOf high v n).take (k+1)=(bitsOf high v n).take k++[v.testBit (rk high n k)]:=by
 rw [List.take_add_one,y8b _ _ _ _ h];rfl
def z2u (high:Bool) (L:List Bool) (i:Nat):Nat:=mk (fun r=>L.getD (8*i+rk high 8 r) false) 8
theorem z0s (high:Bool) (L:List Bool) (i r:Nat) :
  (z2u high L i).testBit r=(decide (r<8) && L.getD (8*i+rk high 8 r) false):=z9y _ _ _
theorem y1l (high:Bool) (L:List Bool) (i:Nat):z2u high L i<256:=w2k _ 8
def pk (high:Bool) (m:Nat) (L:List Bool):List Nat:=(List.range m).map (z2u high L)
theorem z0z (high:Bool) (m:Nat) (L:List Bool):(pk high m L).length=m:=by simp [pk]
theorem z8l (high:Bool) (m:Nat) (L:List Bool) (i:Nat) (h:i<m):(pk high m L)[i]?=some (z2u high L i):=by simp [pk,h]
theorem z3s (L:List Bool) (b:Bool) (j:Nat) :
  (L++[b]).getD j false=if j=L.length then b else L.getD j false:=by
 simp only [List.getD_eq_getElem?_getD]
 by_cases h:j<L.length
 ·have:j≠L.length:=by omega
  simp [List.getElem?_append_left h,this]
 ·by_cases h2:j=L.length
  ·subst h2;simp
  ·have h3:L.length<j:=by omega
   rw [if_neg h2,List.getElem?_eq_none (l:=L) (i:=j) (by omega),List.getElem?_eq_none (by simp;omega)]
theorem z8b (high:Bool) (L:List Bool) (b:Bool) (i p:Nat) (hp:p<8) (h:L.length=8*i+p) :
  z2u high (L++[b]) i=z2u high L i ||| (b.toNat <<< rk high 8 p):=by
 apply Nat.eq_of_testBit_eq
 intro r
 rw [Nat.testBit_or,z0s,z0s,z1r,z3s]
 by_cases h8:r<8
 ·by_cases hr:r=rk high 8 p
  ·subst hr
   rw [y9d hp,if_pos (by omega)]
   rw [List.getD_eq_getElem?_getD,List.getElem?_eq_none (l:=L) (i:=8*i+p) (by omega)]
   simp [h8]
  ·have:8*i+rk high 8 r≠L.length:=by
    intro e
    apply hr
    have e2:rk high 8 r=p:=by omega
    rw [←e2,y9d h8]
   rw [if_neg this]
   simp [hr]
 ·have:r≠rk high 8 p:=by have:=z5v (high:=high) hp;omega
  simp [h8,this]
theorem z5g (high:Bool) (L:List Bool) (b:Bool) (i:Nat) (h:L.length<8*i∨8*i+8≤L.length) :
  z2u high (L++[b]) i=z2u high L i:=by
 apply Nat.eq_of_testBit_eq
 intro r
 rw [z0s,z0s,z3s]
 by_cases h8:r<8
 ·have:=z5v (high:=high) h8
  rw [if_neg (by omega)]
 ·simp [h8]
theorem y3i (high:Bool) (L:List Bool) (i:Nat) (h:L.length≤8*i):z2u high L i=0:=by
 apply Nat.eq_of_testBit_eq
 intro r
 rw [z0s]
 simp [List.getElem?_eq_none (l:=L) (i:=8*i+rk high 8 r) (by omega)]
theorem z9h (high:Bool) (L:List Bool) (m:Nat) (h:L.length≤8*m):pk high (m+1) L=pk high m L++[0]:=by
 simp [pk,List.range_succ,y3i high L m h]
theorem y1o (high:Bool) (L:List Bool) (b:Bool) (i p:Nat) (hp:p<8) (h:L.length=8*i+p) :
  pk high (i+1) (L++[b])=(pk high (i+1) L).set i (z2u high L i ||| (b.toNat <<< rk high 8 p)):=by
 apply List.ext_getElem?
 intro j
 by_cases hj:j<i+1
 ·by_cases e:j=i
  ·subst e
   rw [z8l _ _ _ _ hj,z8b high L b j p hp h,List.getElem?_set_self (by rw [z0z];exact hj)]
  ·rw [z8l _ _ _ _ hj,List.getElem?_set_ne (by omega),z8l _ _ _ _ hj,z5g high L b j (by omega)]
 ·rw [List.getElem?_eq_none (by rw [z0z];omega),List.getElem?_eq_none (by rw [List.length_set,z0z];omega)]
theorem y1z (v k:Nat):(v >>> k)%256%2=(v.testBit k).toNat:=by
 rw [Nat.mod_mod_of_dvd _ (by decide:2∣256)]
 rw [Nat.testBit_eq_decide_div_mod_eq,Nat.shiftRight_eq_div_pow]
 rcases Nat.mod_two_eq_zero_or_one (v/2^k) with h|h<;>simp [h]
def acc (high:Bool) (n:Nat) (f:Nat→Bool):Nat→Nat
 | 0=>0
 | i+1=>acc high n f i ||| ((f i).toNat <<< rk high n i)
theorem z7f (high:Bool) (n:Nat) (f:Nat→Bool) (i r:Nat) (hi:i≤n):(acc high n f i).testBit r=(decide (r<n) && (decide (rk high n r<i) && f (rk high n r))):=by
 induction i with
 | zero=>simp [acc]
 | succ i ih =>
  rw [acc,Nat.testBit_or,ih (by omega),z1r]
  by_cases hr:r<n
  ·by_cases e:r=rk high n i
   ·have e2:rk high n r=i:=by rw [e,y9d (by omega)]
    simp [hr,e2,←e]
   ·have e2:rk high n r≠i:=fun h=>e (by rw [←h,y9d hr])
    by_cases h3:rk high n r<i
    ·have:rk high n r<i+1:=by omega
     simp [hr,e,h3,this]
    ·have:¬rk high n r<i+1:=by omega
     simp [hr,e,h3,this]
  ·have e:r≠rk high n i:=by have:=z5v (high:=high) (show i<n by omega);omega
   simp [hr,e]
theorem w0n (high:Bool) (n:Nat) (f:Nat→Bool) (i:Nat) (hi:i≤n):acc high n f i<2^n:=by
 apply Nat.lt_pow_two_of_testBit
 intro j hj
 rw [z7f _ _ _ _ _ hi]
 have:¬j<n:=by omega
 simp [this]
def z2h (high:Bool) (zs:List Nat) (i:Nat):Bool:=(zs.getD (i/8) 0).testBit (rk high 8 (i%8))
def y5f (high:Bool) (n:Nat) (f:Nat→Bool):Nat:=acc high n f n
theorem y3h (high:Bool) (V n:Nat) (hV:V<2^n) (f:Nat→Bool) (h:∀i,i<n→f i=V.testBit (rk high n i)):y5f high n f=V:=by
 apply Nat.eq_of_testBit_eq
 intro r
 unfold y5f
 rw [z7f _ _ _ _ _ (Nat.le_refl _)]
 by_cases hr:r<n
 ·have h1:=z5v (high:=high) hr
  rw [h _ h1,y9d hr]
  simp [hr,h1]
 ·have:V.testBit r=false:=Nat.testBit_lt_two_pow (Nat.lt_of_lt_of_le hV (Nat.pow_le_pow_right (by decide) (by omega)))
  simp [hr,this]
theorem x3c (z k:Nat):(z >>> k)%2=(z.testBit k).toNat:=by
 rw [Nat.testBit_eq_decide_div_mod_eq,Nat.shiftRight_eq_div_pow]
 rcases Nat.mod_two_eq_zero_or_one (z/2^k) with h|h<;>simp [h]
end B4.Mth
namespace B4
open Go.RowKit Mth
theorem qz {p:Prop} (h:p):Hid p:=h
theorem uh {p:Prop} (h:Hid p):p:=h
def bv (z:Nat):Value:=.int .u8 (z:Int)
structure WOk (w:World) (pb:Nat) (high:Bool) (v:Value) (m:Nat) (L:List Bool) (f:Nat):Prop where
 blk:w.heap[pb]?=some (.cells #[.bool true,.bool high,v,.int .i64 (f:Int)] 68 (0,0))
 row:w.ownsRow (pb+1) 5 1 v m ((pk high m L).map bv)
 len:L.length+f=8*m
structure Chg (pb:Nat) (v0:Value) (w0:World) (v:Value) (w:World):Prop where
 os:w.os=w0.os
 tape:w.tape=w0.tape
 output:w.output=w0.output
 size:w0.heap.size≤w.heap.size
 keep:∀k,k<w0.heap.size→k≠pb→v0.ownBlock≠some k→w.heap[k]?=w0.heap[k]?
 lies:v.ownBlock=v0.ownBlock∨∃g,v.ownBlock=some g∧w0.heap.size≤g
theorem Chg.refl (pb:Nat) (v:Value) (w:World):Chg pb v w v w:=⟨rfl,rfl,rfl,Nat.le_refl _,fun _ _ _ _=>rfl,.inl rfl⟩
theorem Chg.trans {pb:Nat} {v0 v1 v2:Value} {w0 w1 w2:World} (h:Chg pb v0 w0 v1 w1) (k:Chg pb v1 w1 v2 w2):Chg pb v0 w0 v2 w2 where
 os:=k.os.trans h.os
 tape:=k.tape.trans h.tape
 output:=k.output.trans h.output
 size:=Nat.le_trans h.size k.size
 keep:=fun b hb hne hv=>by
  have hs:=h.size
  rw [k.keep b (by omega) hne (by
   rcases h.lies with e|⟨g,e,hg⟩
   ·rw [e];exact hv
   ·rw [e];intro c;injection c with c;omega),h.keep b hb hne hv]
 lies:=by
  have hs:=h.size
  rcases k.lies with e|⟨g,e,hg⟩
  ·rw [e];exact h.lies
  ·exact .inr ⟨g,e,by omega⟩
theorem WOk.c0 {w:World} {pb:Nat} {high:Bool} {v:Value} {m:Nat} {L:List Bool} {f:Nat} (h:WOk w pb high v m L f):w.cell? ⟨pb,0,none⟩=some (.bool true):=by simp [World.cell?,h.blk]
theorem WOk.c1 {w:World} {pb:Nat} {high:Bool} {v:Value} {m:Nat} {L:List Bool} {f:Nat} (h:WOk w pb high v m L f):w.cell? ⟨pb,1,none⟩=some (.bool high):=by simp [World.cell?,h.blk]
theorem WOk.c2 {w:World} {pb:Nat} {high:Bool} {v:Value} {m:Nat} {L:List Bool} {f:Nat} (h:WOk w pb high v m L f):w.cell? ⟨pb,2,none⟩=some v:=by simp [World.cell?,h.blk]
theorem WOk.c3 {w:World} {pb:Nat} {high:Bool} {v:Value} {m:Nat} {L:List Bool} {f:Nat} (h:WOk w pb high v m L f):w.cell? ⟨pb,3,none⟩=some (.int .i64 (f:Int)):=by simp [World.cell?,h.blk]
theorem WOk.fz {w:World} {pb:Nat} {high:Bool} {v:Value} {m:Nat} {L:List Bool} {f:Nat} (h:WOk w pb high v m L f) (o:Nat):w.frozen? ⟨pb,o,none⟩=false:=by simp [World.frozen?,h.blk]
theorem WOk.lt {w:World} {pb:Nat} {high:Bool} {v:Value} {m:Nat} {L:List Bool} {f:Nat} (h:WOk w pb high v m L f):pb<w.heap.size:=by
 rcases Nat.lt_or_ge pb w.heap.size with h'|h'
 ·exact h'
 ·have:=h.blk;rw [Array.getElem?_eq_none h'] at this;cases this
theorem w0s (l:List Nat) (i x:Nat):(l.map bv).set i (bv x)=(l.set i x).map bv:=by rw [List.map_set]
theorem WOk.grown {wr w1:World} {pb:Nat} {high:Bool} {v:Value} {m:Nat} {L:List Bool} {f:Nat} {o:Obj} (h:WOk wr pb high v m L f) (hg:(wr.alloc o).grownBy w1 v.ownBlock) :
  w1.cell? ⟨pb,1,none⟩=some (.bool high)∧w1.cell? ⟨pb,2,none⟩=some v∧w1.cell? ⟨pb,3,none⟩=some (.int .i64 (f:Int))∧w1.frozen? ⟨pb,2,none⟩=false∧w1.frozen? ⟨pb,3,none⟩=false:=by
 have hlt:=h.lt
 have hvb:v.ownBlock≠some pb:=fun e=>by have:=(h.row.lt pb e).1;omega
 have hbk:w1.heap[pb]?=some (.cells #[.bool true,.bool high,v,.int .i64 (f:Int)] 68 (0,0)):=by
  rw [hg.block pb (by simp;omega) (fun e=>hvb e.symm),Below.heap_alloc _ _ _ hlt];exact h.blk
 simp [World.cell?,World.frozen?,hbk]
theorem WOk.grow {wr w1:World} {pb:Nat} {high:Bool} {v:Value} {m g cap:Nat} {L:List Bool} (h:WOk wr pb high v m L 0) (o:Obj)
  (hown:w1.ownsRow (pb+1) 5 1 (.slice (some ⟨g,0,none⟩) (m+1) cap) (m+1) ((pk high m L).map bv++[.int .u8 0])) (hg:(wr.alloc o).grownBy w1 v.ownBlock) (hat:v.ownBlock=some g∨g=wr.heap.size+1) :
  WOk ((w1.setCell ⟨pb,2,none⟩ (.slice (some ⟨g,0,none⟩) (m+1) cap)).setCell ⟨pb,3,none⟩ (.int .i64 8)) pb high (.slice (some ⟨g,0,none⟩) (m+1) cap) (m+1) L 8 ∧
  Chg pb v wr (.slice (some ⟨g,0,none⟩) (m+1) cap) ((w1.setCell ⟨pb,2,none⟩ (.slice (some ⟨g,0,none⟩) (m+1) cap)).setCell ⟨pb,3,none⟩ (.int .i64 8)):=by
 have hlt:=h.lt
 have hvb:v.ownBlock≠some pb:=fun e=>by have:=(h.row.lt pb e).1;omega
 have hgp:g≠pb:=by
  rcases hat with e|e
  ·have:=(h.row.lt g e).1;omega
  ·omega
 have hbk:w1.heap[pb]?=some (.cells #[.bool true,.bool high,v,.int .i64 0] 68 (0,0)):=by
  rw [hg.block pb (by simp;omega) (fun e=>hvb e.symm),Below.heap_alloc _ _ _ hlt];exact h.blk
 refine ⟨⟨?_,?_,?_⟩,?_⟩
 ·have h2:=heap_setCell_same w1 pb 2 _ _ (.slice (some ⟨g,0,none⟩) (m+1) cap) hbk
  rw [heap_setCell_same _ pb 3 _ _ _ h2]
  simp
 ·obtain ⟨hl,hr⟩:=hown
  refine ⟨by simp [z0z],?_⟩
  rcases hr with ⟨e,_⟩|⟨g',cap',cur,e,hb,hh,hn,hc,hs,ht⟩
  ·cases e
  ·injection e with e1 e2 e3
   injection e1 with e1
   injection e1 with e1
   subst e1 e3
   refine .inr ⟨g,cap,cur,rfl,hb,?_,hn,hc,hs,?_⟩
   ·rw [heap_setCell_other _ _ _ _ (by exact hgp),heap_setCell_other _ _ _ _ (by exact hgp)];exact hh
   ·rw [ht,z9h high L m (by have:=h.len;omega)];simp [bv]
 ·have:=h.len;omega
 ·refine ⟨hg.os,hg.tape,hg.output,?_,?_,?_⟩
  ·have:=hg.size;simp at this ⊢;omega
  ·intro k hk hne hv
   rw [heap_setCell_other _ _ _ _ (by exact hne),heap_setCell_other _ _ _ _ (by exact hne),hg.block k (by simp;omega) (fun e=>hv e.symm),Below.heap_alloc _ _ _ hk]
  ·rcases hat with e|e
   ·exact .inl e.symm
   ·exact .inr ⟨g,rfl,by omega⟩
theorem WOk.bit {wr:World} {pb:Nat} {high:Bool} {q g cap f:Nat} {L:List Bool} (h:WOk wr pb high (.slice (some ⟨g,0,none⟩) (q+1) cap) (q+1) L (f+1)) (hf:f≤7) (b:Bool) :
  WOk ((wr.setCell ⟨g,q,none⟩ (bv (z2u high L q ||| (b.toNat <<< rk high 8 (7-f))))).setCell ⟨pb,3,none⟩ (.int .i64 (f:Int))) pb high (.slice (some ⟨g,0,none⟩) (q+1) cap) (q+1) (L++[b]) f ∧
  Chg pb (.slice (some ⟨g,0,none⟩) (q+1) cap) wr (.slice (some ⟨g,0,none⟩) (q+1) cap) ((wr.setCell ⟨g,q,none⟩ (bv (z2u high L q ||| (b.toNat <<< rk high 8 (7-f))))).setCell ⟨pb,3,none⟩ (.int .i64 (f:Int))):=by
 have hlt:=h.lt
 have hgp:g≠pb:=by have:=(h.row.lt g rfl).1;omega
 have hll:=h.len
 refine ⟨⟨?_,?_,?_⟩,?_⟩
 ·rw [heap_setCell_same _ pb 3 #[.bool true,.bool high,.slice (some ⟨g,0,none⟩) (q+1) cap,.int .i64 ((f+1:Nat):Int)] 68 _ (by rw [heap_setCell_other _ _ _ _ (by exact hgp.symm)];exact h.blk)]
  simp
 ·obtain ⟨hl,hr⟩:=h.row
  refine ⟨by simp [z0z],?_⟩
  rcases hr with ⟨e,_⟩|⟨g',cap',cur,e,hb,hh,hn,hc,hs,ht⟩
  ·cases e
  ·injection e with e1 e2 e3
   injection e1 with e1
   injection e1 with e1
   subst e1 e3
   refine .inr ⟨g,cap,cur.setIfInBounds q (bv (z2u high L q ||| (b.toNat <<< rk high 8 (7-f)))),rfl,hb,?_,hn,hc,?_,?_⟩
   ·rw [heap_setCell_other _ _ _ _ (by exact hgp),heap_setCell_same _ g q cur 5 _ hh]
   ·simpa using hs
   ·rw [y1o high L b q (7-f) (by omega) (by omega),←w0s,←ht]
    simp [List.take_set]
 ·simp;omega
 ·refine ⟨rfl,rfl,rfl,?_,?_,.inl rfl⟩
  ·simp
  ·intro k hk hne hv
   have hv':k≠g:=fun e=>hv (by rw [e];rfl)
   rw [heap_setCell_other _ _ _ _ (by exact hne),heap_setCell_other _ _ _ _ (by exact hv')]
theorem WOk.last {wr:World} {pb:Nat} {high:Bool} {q g cap f:Nat} {L:List Bool} (h:WOk wr pb high (.slice (some ⟨g,0,none⟩) (q+1) cap) (q+1) L f) :
  wr.cell? ⟨g,q,none⟩=some (.int .u8 (z2u high L q:Int)):=by
 have:=h.row.cells (g:=g) rfl q (bv (z2u high L q)) (by rw [List.getElem?_map,z8l high (q+1) L q (by omega)];rfl)
 have e:(⟨g,0,none⟩:Addr).add q=⟨g,q,none⟩:=by by_cases hq:q=0<;>simp [Addr.add,hq]
 rw [e] at this
 exact this
theorem WOk.lastfz {wr:World} {pb:Nat} {high:Bool} {q g cap f:Nat} {L:List Bool} (h:WOk wr pb high (.slice (some ⟨g,0,none⟩) (q+1) cap) (q+1) L f) :
  wr.frozen? ⟨g,q,none⟩=false∧g≠pb∧g<wr.heap.size∧(q:Int)+1≤cap∧(cap:Int)≤9223372036854775807:=by
 have hb:=(h.row.lt g rfl)
 obtain ⟨hl,hr⟩:=h.row
 rcases hr with ⟨e,_⟩|⟨g',cap',cur,e,hb',hh,hn,hc,hs,ht⟩
 ·cases e
 ·injection e with e1 e2 e3
  injection e1 with e1
  injection e1 with e1
  subst e1 e3
  unfold maxLen at hc
  exact ⟨by simp [World.frozen?,hh],by omega,by omega,by omega,by omega⟩
theorem y9z (V r:Nat) (hr:r<64):bits .and .u8 ((V:Int)/2^min r 64%256) 1=((V.testBit r).toNat:Int):=by
 rw [Nat.min_eq_left (by omega),show ((V:Int)/2^r%256)=((V/2^r%256:Nat):Int) by simp]
 have h:=u8_and_nat (V/2^r%256) 1 (Nat.mod_lt _ (by decide)) (by decide)
 rw [Nat.and_one_is_mod,←Nat.shiftRight_eq_div_pow,y1z] at h
 rw [←Nat.shiftRight_eq_div_pow]
 exact h
theorem x1u (B r:Nat) (bt:Bool) (hB:B<256) (hr:r<8):bits .or .u8 (B:Int) ((bt.toNat:Int)*2^min r 8%256)=((B ||| (bt.toNat <<< r):Nat):Int):=by
 have h2:bt.toNat*2^r<256:=by
  have h3:bt.toNat≤1:=Bool.toNat_le bt
  have h4:2^r≤2^7:=Nat.pow_le_pow_right (by decide) (by omega)
  have h5:=Nat.mul_le_mul h3 h4
  omega
 rw [Nat.min_eq_left (by omega),show (bt.toNat:Int)*2^r%256=((bt.toNat*2^r%256:Nat):Int) by simp,Nat.mod_eq_of_lt h2,u8_or_nat B _ hB h2,Nat.shiftLeft_eq]
theorem WOk.drew {w:World} {pb:Nat} {high:Bool} {v:Value} {m:Nat} {L:List Bool} {f:Nat} (h:WOk w pb high v m L f):WOk w.drew pb high v m L f:=⟨h.blk,h.row.drew,h.len⟩
theorem Chg.drew {pb:Nat} {v0 v:Value} {w0 w:World} (h:Chg pb v0 w0 v w):Chg pb v0 w0 v w.drew:=⟨h.os,h.tape,h.output,h.size,h.keep,h.lies⟩
theorem WOk.bitAt {wr:World} {pb:Nat} {high:Bool} {q g cap f V N k:Nat} {L:List Bool} (h:WOk wr pb high (.slice (some ⟨g,0,none⟩) (q+1) cap) (q+1) (L++(bitsOf high V N).take k) (f+1)) (hf:f≤7) (hk:k<N) (x:Int)
  (hx:x=bits .or .u8 (z2u high (L++(bitsOf high V N).take k) q:Int) (((V.testBit (rk high N k)).toNat:Int)*2^min (rk high 8 (7-f)) 8%256)) :
  WOk ((wr.setCell ⟨g,q,none⟩ (.int .u8 x)).setCell ⟨pb,3,none⟩ (.int .i64 (f:Int))).drew pb high (.slice (some ⟨g,0,none⟩) (q+1) cap) (q+1) (L++(bitsOf high V N).take (k+1)) f ∧
  Chg pb (.slice (some ⟨g,0,none⟩) (q+1) cap) wr (.slice (some ⟨g,0,none⟩) (q+1) cap) ((wr.setCell ⟨g,q,none⟩ (.int .u8 x)).setCell ⟨pb,3,none⟩ (.int .i64 (f:Int))).drew:=by
 have h2:=h.bit hf (V.testBit (rk high N k))
 rw [hx,x1u _ _ _ (y1l _ _ _) (z5v (by omega)),z6q high V N k hk,←List.append_assoc]
 exact ⟨h2.1.drew,h2.2.drew⟩
end B4
namespace B4
open Go.RowKit
section
variable {P:Program} {md:Region.Mode} {ops:Array Oper} {Q:Exit→Act→World→Prop} {S S':World→Prop}
end
theorem z1y {P:Program} {id:Nat} {Q:Exit→Act→World→Prop} {a:Act} {w:World} {l:List Oper} (n:Nat) (hm:P.follows .mixedOrders=true) (hB:Region.lexTailB .any l.toArray n=true)
  (h:wpStill P l.toArray w.drew (fun a'=>wpList P l.toArray Q (l.drop n) a' w.drew) (l.take n) a):(Code.region id l.toArray true).wp P Q a w:=wp_region_still_tail n hm hB h
end B4
namespace B4
open Go.RowKit Mth
attribute [local go_sem ↓] wp_at_zero wp_at_succ
theorem z4l (i n:Int) (high:Bool) (w:World) (h0:0≤i) (h1:i<n) (h2:n≤64) :
  Calls Tryz.prog 80 #[.int .i64 i,.int .i64 n,.bool high] w fun e w'=>e=.returned (.int .i64 ((rk high n.toNat i.toNat:Nat):Int))∧w'=w:=by
 obtain ⟨a,rfl⟩:=Int.eq_ofNat_of_zero_le h0
 obtain ⟨b,rfl⟩:=Int.eq_ofNat_of_zero_le (show 0≤n by omega)
 cases high
 ·go_enter Tryz.func80,Tryz.ntmps80
  go_wp2
  go_ret
  exact ⟨rfl,rfl⟩
 ·go_enter Tryz.func80,Tryz.ntmps80
  go_wp2
  go_ret
  refine ⟨?_,rfl⟩
  have:((rk true (b:Int).toNat (a:Int).toNat:Nat):Int)=(b:Int)-1-a:=by simp [rk];omega
  rw [this]
  rfl
theorem info5:(Tryz.prog.info? 5).map (fun i=>(i.zero,i.size,i.bytes))=some (some (.int .u8 0),1,1):=by kernel_rfl
theorem x4y (pb m f:Nat) (high:Bool) (v0:Value) (L:List Bool) (V N:Nat) (w:World) (hw:WOk w pb high v0 m L f) (hf:f≤7) (hN:N≤64) (hb:L.length+N≤1000000000000000) :
  Calls Tryz.prog 43 #[.pointer (some ⟨pb,0,none⟩),.int .u64 (V:Int),.int .i64 (N:Int)] w fun e w'=>e=.returned (.tuple #[])∧∃v' m' f',WOk w' pb high v' m' (L++bitsOf high V N) f'∧f'≤7∧Chg pb v0 w v' w':=by
 obtain ⟨i0,hi,hz0,hz1,hz2⟩:=info_parts info5
 go_enter Tryz.func43,Tryz.ntmps43
 go_wp2
 go_step3
 go_wp2
 go_step3
 go_wp2
 go_loopg [6] N (fun gk d wr=>∃k v m f,gk=N-k∧k≤N∧d=.int .i64 (k:Int)∧WOk wr pb high v m (L++(bitsOf high V N).take k) f∧f≤7∧Chg pb v0 w v wr)
 case atStart=>exact ⟨0,v0,m,f,by omega,by omega,rfl,by simpa using hw,hf,Chg.refl _ _ _⟩
 case round =>
  obtain ⟨k,v,m,f,rfl,hk,rfl,hok,hf7,hch⟩:=hrel
  by_cases hlt:k<N
  ·have c0:=hok.c0
   have c1:=hok.c1
   have c2:=hok.c2
   have c3:=hok.c3
   have f2:=hok.fz 2
   have f3:=hok.fz 3
   by_cases h0:f=0
   ·subst h0
    have HOK:Hid (WOk wr pb high v m (L++(bitsOf high V N).take k) 0):=hok
    have HCH:Hid (Chg pb v0 w v wr):=hch
    clear hok hch hw
    have hrow:=qz (HOK.out.row.alloc (.cells #[.int .u8 0] 5))
    have hnews:Hid (∀j u,[Value.int .u8 0][j]?=some u→(wr.alloc (.cells #[.int .u8 0] 5)).cell? ((⟨wr.heap.size,0,none⟩:Addr).add j)=some u):=by
     intro j u hj
     match j,hj with
     | 0,hj=>simp at hj;subst hj;simp [Addr.add]
    have hlen:=qz HOK.out.len
    have hlt':=HOK.out.lt
    have hm63:(m:Int)≤1000000000000000:=by have:=HOK.out.len;simp [z1n] at this;omega
    go_wp2_with (at_builtin;go_must (refine wpList_append_lies _ rfl (.tmp 21) (.tmp 22) 22 rfl (pb+1) 5 i0 (.int .u8 0) 1 1 Tryz.underlying22 hi hz0 hz1 hz2 rfl (by decide) v m _ (by rfl) (uh hrow) ⟨wr.heap.size,0,none⟩ 1 1 [.int .u8 0] (by rfl) rfl (uh hnews) (by intro u hu;simp at hu;subst hu;rfl) (by omega) (by have:=uh hlen;simp [z1n] at this;unfold maxLen;omega) (by have:=uh hlen;simp [z1n] at this;omega) (by simp;omega) (wr.heap.size+1) (by simp) ?_;intro g cap w1 hown hgrow hat hglt;obtain ⟨d1,d2,d3,e2,e3⟩:=HOK.out.grown hgrow;have HG:=qz (HOK.out.grow _ hown hgrow hat);clear hown hgrow hat hglt c0 c1 c2 c3 f2 f3))
    obtain ⟨hok2,hch2⟩:=uh HG
    have hch3:=(uh HCH).trans hch2
    have hq63:=hok2.lastfz.2.2.2
    clear HG hch2 HOK HCH hrow hnews
    generalize hW2:(w1.setCell ⟨pb,2,none⟩ (.slice (some ⟨g,0,none⟩) (m+1) cap)).setCell ⟨pb,3,none⟩ (.int .i64 8)=W2 at hok2 hch3
    clear hW2 d1 d2 d3 e2 e3
    have HOK:=qz hok2
    have HCH:=qz hch3
    clear hok2 hch3
    go_loopg [6,39] 8 (fun gj d c ws=>∃j,gj=8-j∧j≤8∧k+j<N∧d=.int .i64 ((k+j:Nat):Int)∧c=.int .i64 (j:Int)∧WOk ws pb high (.slice (some ⟨g,0,none⟩) (m+1) cap) (m+1) (L++(bitsOf high V N).take (k+j)) (8-j)∧Chg pb v0 w (.slice (some ⟨g,0,none⟩) (m+1) cap) ws)
    case atStart=>exact ⟨0,by omega,by omega,by omega,rfl,rfl,HOK.out,HCH.out⟩
    case round =>
     obtain ⟨j,rfl,hj,hkj,rfl,rfl,ok,ch⟩:=hrel
     clear HOK HCH
     by_cases hjf:j<8
     ·obtain ⟨f',hf'⟩:∃f',8-j=f'+1:=⟨8-j-1,by omega⟩
      have hf'':=qz hf'
      have hf8:f'≤7:=by omega
      rw [hf'] at ok
      clear hf'
      have hrl:=z5v (high:=high) hkj
      have c1:=ok.c1
      have c2:=ok.c2
      have c3:=ok.c3
      have cl:=ok.last
      have hoc:=y1l high (L++(bitsOf high V N).take (k+j)) m
      obtain ⟨fl,hgp,hgs,hqc,hcap⟩:=ok.lastfz
      have f3:=ok.fz 3
      go_wp2_with (go_at_call 80;go_must (refine (z4l _ _ _ _ (by omega) (by omega) (by omega)).mono ?_;rintro e w' ⟨rfl,rfl⟩))
      rw [y9z V (rk high N (k+j)) (by omega)]
      have HF:=qz (fun x hx=>ok.bitAt hf8 hkj x hx)
      have HCH:=qz ch
      clear ok ch
      generalize hB:z2u high (L++(bitsOf high V N).take (k+j)) m=B at cl hoc HF
      generalize hbt:V.testBit (rk high N (k+j))=bt at HF
      clear hB hbt
      have hwr:IntKind.i64.wrap (8-((f':Int)+1))=((7-f':Nat):Int):=by rw [IntWalk.i64_in _ (by omega)];omega
      have hq1:(m:Int)<(m:Int)+1:=by omega
      refine z1y 21 (by kernel_rfl) (by kernel_rfl) ?_
      simp only [List.take_succ_cons,List.take_zero,List.drop_succ_cons,List.drop_zero]
      repeat (first|still_call (z4l _ _ _ _ (by omega) (by omega) (by omega))|still_step)
      try refine wpStill_nil ?_
      go_wp2
      ·have hne:((k:Int)+j+1 == N)=true:=by assumption
       have hne':N=k+j+1:=by simp at hne;omega
       have R:=uh HF _ rfl
       rw [Exit.noGoto_normal]
       go_end0
       refine ⟨rfl,_,m+1,f',?_,?_,(uh HCH).trans R.2⟩
       ·have R1:=R.1
        rw [←hne',List.take_of_length_le (by rw [z1n];omega)] at R1
        exact R1
       ·have:=uh hf'';omega
      ·have hne:((k:Int)+j+1 == N)=false:=by assumption
       have hne':k+j+1≠N:=by simp at hne;omega
       go_roundg (8-(j+1))
       case measure=>omega
       case rel => 
        have R:=uh HF _ rfl
        exact ⟨j+1,by have:=uh hf'';omega,by omega,by omega,by go_num,by go_num,by rw [show 8-(j+1)=f' by have:=uh hf'';omega];exact R.1,(uh HCH).trans R.2⟩
     ·have hjf':j=8:=by omega
      subst hjf'
      go_wp2
      go_roundg (N-(k+8))
      case measure=>omega
      case rel=>exact ⟨k+8,_,m+1,0,rfl,by omega,by go_num,by simpa using ok,by omega,ch⟩
   ·obtain ⟨q,rfl⟩:∃q,m=q+1:=⟨m-1,by have:=hok.len;omega⟩
    obtain ⟨g,cap,rfl⟩:∃g cap,v=.slice (some ⟨g,0,none⟩) (q+1) cap:=by
     rcases hok.row.2 with ⟨_,e⟩|⟨g,cap,_,e,_⟩
     ·omega
     ·exact ⟨g,cap,e⟩
    have h0':((f:Int) == 0)=false:=by simp;omega
    have hq63:=hok.lastfz.2.2.2
    have HOK:Hid (WOk wr pb high (.slice (some ⟨g,0,none⟩) (q+1) cap) (q+1) (L++(bitsOf high V N).take k) f):=hok
    have HCH:Hid (Chg pb v0 w (.slice (some ⟨g,0,none⟩) (q+1) cap) wr):=hch
    clear hok hch hw
    go_wp2
    go_loopg [6,39] f (fun gj d c ws=>∃j,gj=f-j∧j≤f∧k+j<N∧d=.int .i64 ((k+j:Nat):Int)∧c=.int .i64 (j:Int)∧WOk ws pb high (.slice (some ⟨g,0,none⟩) (q+1) cap) (q+1) (L++(bitsOf high V N).take (k+j)) (f-j)∧Chg pb v0 w (.slice (some ⟨g,0,none⟩) (q+1) cap) ws)
    case atStart=>exact ⟨0,by omega,by omega,by omega,rfl,rfl,HOK.out,HCH.out⟩
    case round =>
     obtain ⟨j,rfl,hj,hkj,rfl,rfl,ok,ch⟩:=hrel
     clear HOK HCH c0 c1 c2 c3 f2 f3
     by_cases hjf:j<f
     ·obtain ⟨f',hf'⟩:∃f',f-j=f'+1:=⟨f-j-1,by omega⟩
      have hf'':=qz hf'
      have hf8:f'≤7:=by omega
      rw [hf'] at ok
      clear hf'
      have hrl:=z5v (high:=high) hkj
      have c1:=ok.c1
      have c2:=ok.c2
      have c3:=ok.c3
      have cl:=ok.last
      have hoc:=y1l high (L++(bitsOf high V N).take (k+j)) q
      obtain ⟨fl,hgp,hgs,hqc,hcap⟩:=ok.lastfz
      have f3:=ok.fz 3
      go_wp2_with (go_at_call 80;go_must (refine (z4l _ _ _ _ (by omega) (by omega) (by omega)).mono ?_;rintro e w' ⟨rfl,rfl⟩))
      rw [y9z V (rk high N (k+j)) (by omega)]
      have HF:=qz (fun x hx=>ok.bitAt hf8 hkj x hx)
      have HCH:=qz ch
      clear ok ch
      generalize hB:z2u high (L++(bitsOf high V N).take (k+j)) q=B at cl hoc HF
      generalize hbt:V.testBit (rk high N (k+j))=bt at HF
      clear hB hbt
      have hwr:IntKind.i64.wrap (8-((f':Int)+1))=((7-f':Nat):Int):=by rw [IntWalk.i64_in _ (by omega)];omega
      have hq1:(q:Int)<(q:Int)+1:=by omega
      refine z1y 21 (by kernel_rfl) (by kernel_rfl) ?_
      simp only [List.take_succ_cons,List.take_zero,List.drop_succ_cons,List.drop_zero]
      repeat (first|still_call (z4l _ _ _ _ (by omega) (by omega) (by omega))|still_step)
      try refine wpStill_nil ?_
      go_wp2
      ·have hne:((k:Int)+j+1 == N)=true:=by assumption
       have hne':N=k+j+1:=by simp at hne;omega
       have R:=uh HF _ rfl
       rw [Exit.noGoto_normal]
       go_end0
       refine ⟨rfl,_,q+1,f',?_,?_,(uh HCH).trans R.2⟩
       ·have R1:=R.1
        rw [←hne',List.take_of_length_le (by rw [z1n];omega)] at R1
        exact R1
       ·have:=uh hf'';omega
      ·have hne:((k:Int)+j+1 == N)=false:=by assumption
       have hne':k+j+1≠N:=by simp at hne;omega
       go_roundg (f-(j+1))
       case measure=>omega
       case rel => 
        have R:=uh HF _ rfl
        exact ⟨j+1,by have:=uh hf'';omega,by omega,by omega,by go_num,by go_num,by rw [show f-(j+1)=f' by have:=uh hf'';omega];exact R.1,(uh HCH).trans R.2⟩
     ·have hjf':j=f:=by omega
      subst hjf'
      go_wp2
      go_roundg (N-(k+j))
      case measure=>omega
      case rel=>exact ⟨k+j,_,q+1,0,rfl,by omega,by go_num,by simpa using ok,by omega,ch⟩
  ·go_wp2
   rw [Exit.noGoto_normal]
   go_end0
   refine ⟨rfl,v,m,f,?_,hf7,hch⟩
   have R1:=hok
   rw [List.take_of_length_le (by rw [z1n];omega)] at R1
   exact R1
end B4
namespace B4
open Go.RowKit Mth
theorem y0x (pb:Nat) (w:World) (h:w.cell? ⟨pb,0,none⟩=some (.bool true)) :
  Calls Tryz.prog 35 #[.pointer (some ⟨pb,0,none⟩)] w fun e w'=>e=.returned (.bool true)∧w'=w:=by
 go_enter Tryz.func35,Tryz.ntmps35
 go_wp2
 go_ret
 exact ⟨rfl,rfl⟩
theorem x9i (high:Bool) (w:World) :
  Calls Tryz.prog 13 #[.bool high] w fun e w'=>e=.returned (.pointer (some ⟨w.heap.size,0,none⟩))∧w'=w.alloc (.cells #[.bool true,.bool high,.slice none 0 0,.int .i64 0] 68):=by
 go_enter Tryz.func13,Tryz.ntmps13
 go_wp2
 go_ret
 exact ⟨rfl,rfl⟩
theorem w1m (high:Bool) (w:World):WOk (w.alloc (.cells #[.bool true,.bool high,.slice none 0 0,.int .i64 0] 68)) w.heap.size high (.slice none 0 0) 0 [] 0 :=
 ⟨heap_alloc_new w _,by simpa [pk] using World.ownsRow_nil _ _ _ _,rfl⟩
theorem x6p (V N:Nat) (h:V<2^N):((V:Int)/2^N != 0)=false:=by
 rw [show ((V:Int)/2^N)=((V/2^N:Nat):Int) by simp,Nat.div_eq_of_lt h]
 rfl
theorem w1r (pb m f:Nat) (high:Bool) (v0:Value) (L:List Bool) (V n:Int) (w:World) (hw:WOk w pb high v0 m L f) (hf:f≤7) (hn0:0≤n) (hn:n≤64) (hV0:0≤V) (hV:V.toNat<2^n.toNat) (hb:L.length+n.toNat≤1000000000000000) :
  Calls Tryz.prog 17 #[.pointer (some ⟨pb,0,none⟩),.int .u64 V,.int .i64 n] w fun e w'=>e=.returned (.int .i64 0)∧∃v' m' f',WOk w' pb high v' m' (L++bitsOf high V.toNat n.toNat) f'∧f'≤7∧Chg pb v0 w v' w':=by
 obtain ⟨V,rfl⟩:=Int.eq_ofNat_of_zero_le hV0
 obtain ⟨N,rfl⟩:=Int.eq_ofNat_of_zero_le hn0
 simp only [Int.toNat_natCast] at *
 have hsh:=x6p V N hV
 have hN0:decide ((N:Int)<0)=false:=by simp
 have hN1:decide (64<(N:Int))=false:=by simp;omega
 have c0:=hw.c0
 have HW:=qz hw
 clear hw hV
 go_enter Tryz.func17,Tryz.ntmps17
 go_wp2_with (first|(go_at_call 35;refine (y0x _ _ (by assumption)).mono ?_;rintro e w' ⟨rfl,rfl⟩)|(go_at_call 43;go_must (refine (x4y pb m f high v0 L V N _ (uh HW) hf (by omega) hb).mono ?_;rintro e w' ⟨rfl,hq⟩;have HQ:=qz hq;clear hq)))
 go_ret
 exact ⟨rfl,uh HQ⟩
def Reads (w:World) (v:Value) (zs:List Nat):Prop :=
 ∃a cap,v=.slice a zs.length cap∧(0<zs.length→∃ad,a=some ad∧∀ (j:Nat) u,(zs.map bv)[j]?=some u→w.cell? (ad.add j)=some u)
theorem w2t:(Tryz.prog.info? 5).map (·.size)=some 1:=by kernel_rfl
theorem y3o {w:World} {base e n g cap:Nat} {xs:List Value} (h:w.ownsRow base e 1 (.slice (some ⟨g,0,none⟩) n cap) n xs) (hc:cap=n):w.heap[g]?=some (.cells xs.toArray e (0,0))∧base≤g:=by
 obtain ⟨hl,hr⟩:=h
 rcases hr with ⟨e,_⟩|⟨g',cap',cur,e,hb,hh,hn,hcc,hs,ht⟩
 ·cases e
 ·injection e with e1 e2 e3
  injection e1 with e1
  injection e1 with e1
  subst e1 e3 hc
  rw [hh,←ht,List.take_of_length_le (by simp [hs])]
  exact ⟨rfl,hb⟩
theorem cell_lt {w:World} {p:Addr} {u:Value} (h:w.cell? p=some u):p.block<w.heap.size:=by
 rcases Nat.lt_or_ge p.block w.heap.size with h'|h'
 ·exact h'
 ·simp [World.cell?,Array.getElem?_eq_none h'] at h
theorem z0c {w w1:World} (hb:Below w.heap.size w w1) {p:Addr} {u:Value} (h:w.cell? p=some u):w1.cell? p=some u:=by
 rw [hb.cell (cell_lt h)];exact h
theorem y0i (xs zs:List Value) (h:xs.length=zs.length):splice xs 0 zs=zs:=by
 simp [splice,h]
theorem z4y (v:Value) (zs:List Nat) (w:World) (hr:Reads w v zs) (hn:zs.length≤140737488355328) :
  Calls Tryz.prog 44 #[v] w fun e w'=>e=.returned (.slice (some ⟨w.heap.size,0,none⟩) zs.length zs.length)∧w'.heap[w.heap.size]?=some (.cells (zs.map bv).toArray 5 (0,0))∧Below w.heap.size w w':=by
 obtain ⟨a,cap,rfl,hsrc⟩:=hr
 obtain ⟨i0,hi,hz0,hz1,hz2⟩:=info_parts info5
 have HS:=qz hsrc
 clear hsrc
 go_enter Tryz.func44,Tryz.ntmps44
 go_wp2_with (first|(at_make;go_must (refine wpList_make_full _ rfl _ _ 22 rfl w.heap.size 5 i0 (.int .u8 0) 1 Tryz.underlying22 hi hz0 hz1 _ _ _ _ zs.length rfl rfl (by omega) (by omega) (by rw [hz2];omega) (by unfold maxLen;omega) (Nat.le_refl _) ?_;intro w1 hown hgrow;have HO:=qz (y3o hown rfl).1;have HB:=qz ((Below.refl w.heap.size w).grown hgrow (Nat.le_refl _) (by intro k h;cases h));clear hown hgrow))|(refine wpList_copy_splice rfl (.tmp 7) (.tmp 8) 22 22 rfl 5 Tryz.underlying22 w2t _ _ _ _ _ _ (by rfl) (by rfl) w.heap.size 0 _ 5 (uh HO) (zs.map bv) (by simp) (fun h0=>⟨rfl,by obtain ⟨ad,e,h2⟩:=uh HS (by simpa using h0);exact ⟨ad,e,fun j u hj=>z0c (uh HB) (h2 j u hj)⟩⟩) (by simp [madeCells]) (by intro u hu;simp at hu;obtain ⟨z,_,rfl⟩:=hu;rfl) w.heap.size w (uh HB) (Nat.le_refl _) ?_;intro w2 H2 hb2))
 go_ret
 refine ⟨rfl,?_,hb2⟩
 rw [uh H2,y0i _ _ (by simp [madeCells])]
theorem WOk.reads {w:World} {pb:Nat} {high:Bool} {v:Value} {m:Nat} {L:List Bool} {f:Nat} (h:WOk w pb high v m L f):Reads w v (pk high m L):=by
 have hr:=h.row
 rcases hr.2 with ⟨e,e'⟩|⟨g,cap,cur,e,_⟩
 ·refine ⟨none,0,?_,fun h0=>?_⟩
  ·rw [e,z0z,e']
  ·rw [z0z,e'] at h0;omega
 ·refine ⟨some ⟨g,0,none⟩,cap,by rw [e,z0z],fun _=>⟨_,rfl,?_⟩⟩
  exact hr.cells (by rw [e];rfl)
theorem x4n (pb m f:Nat) (high:Bool) (v0:Value) (L:List Bool) (w:World) (hw:WOk w pb high v0 m L f) (hb:m≤140737488355328) :
  Calls Tryz.prog 19 #[.pointer (some ⟨pb,0,none⟩)] w fun e w'=>e=.returned (.slice (some ⟨w.heap.size,0,none⟩) m m)∧w'.heap[w.heap.size]?=some (.cells ((pk high m L).map bv).toArray 5 (0,0))∧Below w.heap.size w w':=by
 have c0:=hw.c0
 have c2:=hw.c2
 have HR:=qz hw.reads
 have hl:=z0z high m L
 generalize pk high m L=zs at HR hl
 subst hl
 clear hw
 go_enter Tryz.func19,Tryz.ntmps19
 go_wp2_with (first|(go_at_call 35;refine (y0x _ _ (by assumption)).mono ?_;rintro e w' ⟨rfl,rfl⟩)|(go_at_call 44;go_must (refine (z4y _ zs _ (uh HR) hb).mono ?_;rintro e w1 ⟨rfl,h1,h2⟩;have H1:=qz h1;have H2:=qz h2;clear h1 h2)))
 go_ret
 exact ⟨rfl,uh H1,uh H2⟩
theorem WOk.keep {w w':World} {pb:Nat} {high:Bool} {v:Value} {m:Nat} {L:List Bool} {f:Nat} (h:WOk w pb high v m L f) (h1:w'.heap[pb]?=w.heap[pb]?) (h2:∀g,v.ownBlock=some g→w'.heap[g]?=w.heap[g]?):WOk w' pb high v m L f:=by
 refine ⟨by rw [h1];exact h.blk,?_,h.len⟩
 obtain ⟨hl,hr⟩:=h.row
 refine ⟨hl,?_⟩
 rcases hr with e|⟨g,cap,cur,e,hb,hh,r⟩
 ·exact .inl e
 ·exact .inr ⟨g,cap,cur,e,hb,by rw [h2 g (by rw [e];rfl)];exact hh,r⟩
theorem x4r (w:World) (g cap:Nat) (zs:List Nat) (hz:∀z∈zs,z<256) (h:w.heap[g]?=some (.cells (zs.map bv).toArray 5 (0,0))) :
  (convert 22 9 (.slice (some ⟨g,0,none⟩) zs.length cap)).run Tryz.prog w=.ok (.string ⟨(zs.map UInt8.ofNat).toArray⟩) w:=by
 have:=run_convert_bytes_back w 22 9 5 ⟨g,0,none⟩ cap (zs.map UInt8.ofNat) Tryz.underlying22 Tryz.underlying5 Tryz.underlying9 (by
  intro j hj
  simp at hj
  have hzj:=hz zs[j] (List.getElem_mem hj)
  have e:(⟨g,0,none⟩:Addr).add j=⟨g,j,none⟩:=by by_cases hq:j=0<;>simp [Addr.add,hq]
  rw [e]
  simp [World.cell?,h,hj,bv,Nat.mod_eq_of_lt hzj])
 simpa using this
theorem z0d {w:World} {k:Nat} {o:Obj} (h:w.heap[k]?=some o):k<w.heap.size:=by
 rcases Nat.lt_or_ge k w.heap.size with h'|h'
 ·exact h'
 ·rw [Array.getElem?_eq_none h'] at h;cases h
end B4
namespace B4.Canon
def cn (ls:List Nat) (l:Nat):Nat:=if l=0 then 0 else ls.count l
def fst (ls:List Nat):Nat→Nat
 | 0=>0
 | l+1=>(fst ls l+cn ls l)*2
def kr (ls:List Nat):Nat→Nat
 | 0=>0
 | l+1=>kr ls l+cn ls l*2^(20-l)
theorem y2y (ls:List Nat):∀l,l≤20→fst ls l*2^(20-l)=kr ls l
 | 0,_=>by simp [fst,kr]
 | l+1,h=>by
  rw [fst,kr,←y2y ls l (by omega),←Nat.add_mul,Nat.mul_assoc,show 20-l=(20-(l+1))+1 by omega,Nat.pow_succ,Nat.mul_comm (2^(20-(l+1))) 2]
theorem y1b (ls:List Nat) {l m:Nat} (h:l≤m):kr ls l≤kr ls m:=by
 induction m with
 | zero=>obtain rfl:l=0:=by omega
         exact Nat.le_refl _
 | succ m ih =>
  by_cases e:l=m+1
  ·subst e;exact Nat.le_refl _
  ·rw [kr]
   have:=ih (by omega)
   omega
def ln (ls:List Nat) (i:Nat):Nat:=ls.getD i 0
def rk (ls:List Nat) (i:Nat):Nat:=(ls.take i).count (ln ls i)
def wd (ls:List Nat) (i:Nat):Nat:=fst ls (ln ls i)+rk ls i
def lo (ls:List Nat) (i:Nat):Nat:=wd ls i*2^(20-ln ls i)
def Has (ls:List Nat) (i:Nat):Prop:=i<ls.length∧0<ln ls i∧ln ls i≤20
theorem z1x (ls:List Nat) (i l:Nat) (h:i<ls.length):(ls.take (i+1)).count l=(ls.take i).count l+(if ln ls i=l then 1 else 0):=by
 rw [List.take_succ_eq_append_getElem h,List.count_append]
 have:ln ls i=ls[i]:=by simp [ln,h]
 rw [this,List.count_singleton]
 by_cases e:ls[i]=l<;>simp [e]
theorem z3i (ls:List Nat) (l:Nat) {i j:Nat} (h:i≤j):(ls.take i).count l≤(ls.take j).count l:=by
 have:ls.take i=(ls.take j).take i:=by rw [List.take_take,Nat.min_eq_left h]
 rw [this]
 exact (List.take_sublist _ _).count_le _
theorem z5v {ls:List Nat} {i:Nat} (h:Has ls i):rk ls i<cn ls (ln ls i):=by
 obtain ⟨h1,h2,_⟩:=h
 rw [cn,if_neg (by omega)]
 have e:=z1x ls i (ln ls i) h1
 rw [if_pos rfl] at e
 have:=z3i ls (ln ls i) (show i+1≤ls.length by omega)
 rw [List.take_length] at this
 rw [rk]
 omega
theorem x5o {ls:List Nat} {i:Nat} (h:Has ls i):lo ls i=kr ls (ln ls i)+rk ls i*2^(20-ln ls i):=by
 rw [lo,wd,Nat.add_mul,y2y ls _ h.2.2]
theorem w1a {ls:List Nat} {i:Nat} (h:Has ls i):lo ls i+2^(20-ln ls i)≤kr ls (ln ls i+1):=by
 rw [x5o h,kr]
 have:=z5v h
 have h2:(rk ls i+1)*2^(20-ln ls i)≤cn ls (ln ls i)*2^(20-ln ls i):=Nat.mul_le_mul_right _ this
 rw [Nat.add_mul,Nat.one_mul] at h2
 omega
theorem apart {ls:List Nat} {i j:Nat} (hi:Has ls i) (hj:Has ls j) (h:ln ls i<ln ls j∨ln ls i=ln ls j∧i<j):lo ls i+2^(20-ln ls i)≤lo ls j:=by
 rcases h with h|⟨h,hij⟩
 ·have h1:=w1a hi
  have h2:=y1b ls (show ln ls i+1≤ln ls j by omega)
  rw [x5o hj]
  omega
 ·rw [x5o hi,x5o hj,h]
  have e:=z1x ls i (ln ls i) hi.1
  rw [if_pos rfl] at e
  have h1:rk ls i+1≤rk ls j:=by
   have:=z3i ls (ln ls i) (show i+1≤j by omega)
   rw [rk,rk,←h]
   omega
  have h2:(rk ls i+1)*2^(20-ln ls j)≤rk ls j*2^(20-ln ls j):=Nat.mul_le_mul_right _ h1
  rw [Nat.add_mul,Nat.one_mul] at h2
  omega
theorem sole {ls:List Nat} {i j x:Nat} (hi:Has ls i) (hj:Has ls j) (h1:lo ls i≤x∧x<lo ls i+2^(20-ln ls i)) (h2:lo ls j≤x∧x<lo ls j+2^(20-ln ls j)):i=j:=by
 rcases Nat.lt_trichotomy (ln ls i) (ln ls j) with h|h|h
 ·have:=apart hi hj (.inl h);omega
 ·rcases Nat.lt_trichotomy i j with e|e|e
  ·have:=apart hi hj (.inr ⟨h,e⟩);omega
  ·exact e
  ·have:=apart hj hi (.inr ⟨h.symm,e⟩);omega
 ·have:=apart hj hi (.inl h);omega
theorem x1b (ls:List Nat) (x:Nat):∀m,m≤21→kr (ls++[x]) m=kr ls m+(if 0<x∧x<m then 2^(20-x) else 0)
 | 0,_=>by simp [kr]
 | m+1,h=>by
  rw [kr,kr,x1b ls x m (by omega)]
  have hc:cn (ls++[x]) m=cn ls m+(if 0<m∧x=m then 1 else 0):=by
   unfold cn
   by_cases h0:m=0
   ·simp [h0]
   ·rw [if_neg h0,if_neg h0,List.count_append,List.count_singleton]
    by_cases e:x=m
    ·simp [e];omega
    ·simp [e]
  rw [hc,Nat.add_mul]
  by_cases e:x=m
  ·subst e
   by_cases h0:0<x
   ·rw [if_neg (by omega),if_pos ⟨h0,rfl⟩,if_pos ⟨h0,by omega⟩];omega
   ·rw [if_neg (by omega),if_neg (by omega),if_neg (by omega)];omega
  ·rw [if_neg (show ¬ (0<m∧x=m) by omega)]
   by_cases h1:0<x∧x<m
   ·rw [if_pos h1,if_pos (by omega)];omega
   ·rw [if_neg h1,if_neg (by omega)];omega
def sum (ls:List Nat):Nat:=kr ls 21
theorem sum_nil:sum []=0:=by simp [sum,kr,cn]
theorem sum_snoc (ls:List Nat) (x:Nat) (h:x≤20):sum (ls++[x])=sum ls+(if 0<x then 2^(20-x) else 0):=by
 rw [sum,x1b ls x 21 (by omega),sum]
 by_cases h0:0<x
 ·rw [if_pos ⟨h0,by omega⟩,if_pos h0]
 ·rw [if_neg (by omega),if_neg h0]
theorem y2k {ls:List Nat} {i:Nat} (h:Has ls i) (hs:sum ls≤1048576):wd ls i<2^ln ls i:=by
 have h1:=w1a h
 have h2:=y1b ls (show ln ls i+1≤21 by have:=h.2.2;omega)
 have h3:(wd ls i+1)*2^(20-ln ls i)≤2^ln ls i*2^(20-ln ls i):=by
  rw [←Nat.pow_add,show ln ls i+(20-ln ls i)=20 by have:=h.2.2;omega,Nat.add_mul,Nat.one_mul]
  show lo ls i+_≤1048576
  unfold sum at hs
  omega
 exact Nat.le_of_mul_le_mul_right h3 (Nat.two_pow_pos _)
/-! ### Beginnings -/
theorem y7z {n l v b:Nat} (hl:l≤n) (hn:n≤20):v/2^(n-l)=b↔b*2^(20-l)≤v*2^(20-n)∧v*2^(20-n)<b*2^(20-l)+2^(20-l):=by
 have e:20-l=(n-l)+(20-n):=by omega
 have hp:0<2^(n-l):=Nat.two_pow_pos _
 have hq:0<2^(20-n):=Nat.two_pow_pos _
 rw [e,Nat.pow_add,←Nat.mul_assoc]
 have e2:b*2^(n-l)*2^(20-n)+2^(n-l)*2^(20-n)=(b*2^(n-l)+2^(n-l))*2^(20-n):=by rw [Nat.add_mul]
 rw [e2,Nat.mul_le_mul_right_iff hq,Nat.mul_lt_mul_right hq]
 constructor
 ·intro h
  have hd:=Nat.div_add_mod v (2^(n-l))
  have hr:=Nat.mod_lt v hp
  rw [h,Nat.mul_comm] at hd
  omega
 ·rintro ⟨h1,h2⟩
  refine Nat.div_eq_of_lt_le h1 ?_
  rw [Nat.add_mul,Nat.one_mul]
  exact h2
theorem free {ls:List Nat} {i j:Nat} (hi:Has ls i) (hj:Has ls j) (hl:ln ls i≤ln ls j) (h:wd ls j/2^(ln ls j-ln ls i)=wd ls i):i=j:=by
 have h2:=(y7z hl hj.2.2).1 h
 have hp:0<2^(20-ln ls j):=Nat.two_pow_pos _
 exact sole hi hj (x:=lo ls j) ⟨h2.1,h2.2⟩ ⟨Nat.le_refl _,by omega⟩
end B4.Canon
namespace B4
open Go.RowKit
def z0q (w:World) (v:Value) (zs:List Int):Prop :=
 ∃a cap,v=.slice a zs.length cap∧(0<zs.length→∃b off,a=some ⟨b,off,none⟩∧∀j,j<zs.length→w.cell? ⟨b,off+j,none⟩=some (.int .i64 (zs.getD j 0)))
theorem z0q.stays {w w1:World} (hb:Below w.heap.size w w1) {v:Value} {zs:List Int} (h:z0q w v zs):z0q w1 v zs:=by
 obtain ⟨a,cap,rfl,hs⟩:=h
 refine ⟨a,cap,rfl,fun h0=>?_⟩
 obtain ⟨b,off,rfl,h2⟩:=hs h0
 exact ⟨b,off,rfl,fun j hj=>z0c hb (h2 j hj)⟩
def z1z (n:Nat) (W L:Nat→Nat):Array Value:=((List.range (2*n)).map fun k=>if k%2=0 then Value.int .u32 (W (k/2):Int) else Value.int .i64 (L (k/2):Int)).toArray
theorem y4o {n:Nat} {W W' L L':Nat→Nat} (h1:∀i,i<n→W i=W' i) (h2:∀i,i<n→L i=L' i):z1z n W L=z1z n W' L':=by
 unfold z1z
 congr 1
 refine List.map_congr_left fun k hk=>?_
 simp at hk
 rw [h1 (k/2) (by omega),h2 (k/2) (by omega)]
def z0i (w:World) (t:TypeId) (g n:Nat) (W L:Nat→Nat):Prop:=w.heap[g]?=some (.cells (z1z n W L) t (0,0))
theorem z0i.word {w:World} {t:TypeId} {g n:Nat} {W L:Nat→Nat} (h:z0i w t g n W L) (i:Nat) (hi:i<n):w.cell? ⟨g,i*2,none⟩=some (.int .u32 (W i:Int)):=by
 simp only [World.cell?,show w.heap[g]?=_ from h]
 simp only [z1z,List.getElem?_toArray,List.getElem?_map]
 rw [List.getElem?_range (show i*2<2*n by omega)]
 simp
theorem z0i.len {w:World} {t:TypeId} {g n:Nat} {W L:Nat→Nat} (h:z0i w t g n W L) (i:Nat) (hi:i<n):w.cell? ⟨g,i*2+1,none⟩=some (.int .i64 (L i:Int)):=by
 simp only [World.cell?,show w.heap[g]?=_ from h]
 simp only [z1z,List.getElem?_toArray,List.getElem?_map]
 rw [List.getElem?_range (show i*2+1<2*n by omega)]
 simp [show (i*2+1)%2=1 by omega,show (i*2+1)/2=i by omega]
theorem z0i.free {w:World} {t:TypeId} {g n:Nat} {W L:Nat→Nat} (h:z0i w t g n W L) (k:Nat):w.frozen? ⟨g,k,none⟩=false:=by
 simp [World.frozen?,show w.heap[g]?=_ from h]
def upd (T:Nat→Nat) (j y:Nat):Nat→Nat:=fun i=>if i=j then y else T i
theorem z0i.set {w:World} {t:TypeId} {g n:Nat} {W L:Nat→Nat} (h:z0i w t g n W L) (i x y:Nat) :
  z0i ((w.setCell ⟨g,i*2,none⟩ (.int .u32 (x:Int))).setCell ⟨g,i*2+1,none⟩ (.int .i64 (y:Int))) t g n (upd W i x) (upd L i y):=by
 have h1:=heap_setCell_same w g (i*2) _ t (.int .u32 (x:Int)) h
 have h2:=heap_setCell_same _ g (i*2+1) _ t (.int .i64 (y:Int)) h1
 unfold z0i
 rw [h2]
 congr 2
 apply Array.ext (by simp [z1z])
 intro k k1 k2
 have hk:k<2*n:=by simpa [z1z] using k2
 rw [Array.getElem_setIfInBounds (by simpa [z1z] using hk),Array.getElem_setIfInBounds (by simpa [z1z] using hk)]
 simp only [z1z,upd,List.getElem_toArray,List.getElem_map,List.getElem_range]
 by_cases e1:i*2+1=k
 ·subst e1
  simp [show (i*2+1)%2=1 by omega,show (i*2+1)/2=i by omega]
 ·by_cases e2:i*2=k
  ·subst e2
   simp
  ·rw [if_neg e1,if_neg e2]
   by_cases e3:k%2=0
   ·rw [if_pos e3,if_pos e3,if_neg (by omega)]
   ·rw [if_neg e3,if_neg e3,if_neg (by omega)]
theorem z0i.stays {w w':World} {t:TypeId} {g n B:Nat} {W L:Nat→Nat} (h:z0i w t g n W L) (hb:Below B w w') (hg:g<B):z0i w' t g n W L:=by
 unfold z0i
 rw [hb.block g hg]
 exact h
theorem w1f:(Tryz.prog.info? 154).map (fun i=>(i.zero,i.size,i.bytes))=some (some (.agg #[.int .u32 0,.int .i64 0]),2,16):=by kernel_rfl
theorem y5l (w:World) (n:Nat) (hn:n≤65536):(Instr.makeSlice 147 (.int .i64 (n:Int)) (.int .i64 (n:Int))).run Tryz.prog w=.ok (.slice (some ⟨w.heap.size,0,none⟩) n n) (w.alloc (.cells (z1z n (fun _=>0) (fun _=>0)) 154)):=by
 obtain ⟨i0,hi,hz0,hz1,hz2⟩:=info_parts w1f
 have:=run_make (P:=Tryz.prog) w 147 154 i0 (.agg #[.int .u32 0,.int .i64 0]) Tryz.underlying147 hi hz0 .i64 .i64 (n:Int) (n:Int) (by omega) (by omega) (by rw [hz2];omega) (by omega)
 rw [hz1] at this
 rw [this]
 congr 3
 apply Array.ext (by simp [madeCells,z1z];omega)
 intro k k1 k2
 have hk:k<2*n:=by simpa [z1z] using k2
 simp only [z1z,madeCells,List.getElem_toArray,List.getElem_map,List.getElem_range,Array.getElem_map,Array.getElem_range]
 by_cases e:k%2=0
 ·simp [Value.cells,e]
 ·have e1:k%2=1:=by omega
  simp [Value.cells,e1]
/-! ### Which lengths are good -/
def z2f (n:Nat) (most:Int):Prop:=1≤most∧most≤20∧1≤n∧n≤65536
def z2l (most z:Int):Prop:=0≤z∧z≤most
def nat (zs:List Int):List Nat:=zs.map Int.toNat
def words (ls:List Nat):Nat:=(ls.filter (fun l=>decide (0<l))).length
def y3k (ls:List Nat) (loose:Bool):Prop:=Canon.sum ls=1048576∨loose=true∧(words ls=0∨words ls=1∧ls.count 1=1)
end B4
namespace B4
open Go.RowKit
def wdz (ls:List Nat) (i:Nat):Nat:=if Canon.ln ls i=0 then 0 else Canon.wd ls i
theorem x2l {l:Nat} (h:0<l):2^(20-l)≤524288:=by
 have h19:(2:Nat)^(20-l)≤2^19:=Nat.pow_le_pow_right (by omega) (by omega)
 simpa using h19
theorem y9q (ls:List Nat) (x:Nat):words (ls++[x])=words ls+(if 0<x then 1 else 0):=by
 unfold words
 rw [List.filter_append,List.length_append]
 by_cases h:0<x<;>simp [h]
theorem z8x (ls:List Nat) (h:∀l∈ls,l≤20):∀k,k≤ls.length→Canon.sum (ls.take k)≤words (ls.take k)*524288
 | 0,_=>by simp [Canon.sum_nil]
 | k+1,hk=>by
  have ih:=z8x ls h k (by omega)
  rw [List.take_succ_eq_append_getElem (by omega),Canon.sum_snoc _ _ (h _ (List.getElem_mem _)),y9q]
  by_cases h0:0<ls[k]
  ·rw [if_pos h0,if_pos h0]
   have:=x2l h0
   generalize 2^(20-ls[k])=P at this
   omega
  ·rw [if_neg h0,if_neg h0];omega
theorem y3k.le {ls:List Nat} {loose:Bool} (h:∀l∈ls,l≤20) (ho:y3k ls loose):Canon.sum ls≤1048576:=by
 rcases ho with e|⟨_,e⟩
 ·omega
 ·have:=z8x ls h ls.length (Nat.le_refl _)
  rw [List.take_length] at this
  rcases e with e|⟨e,_⟩<;>rw [e] at this<;>omega
theorem x7v {ls:List Nat} (hs:Canon.sum ls≤1048576) (l:Nat) (hl:l≤20):Canon.fst ls l+Canon.cn ls l≤1048576:=by
 have h1:=Canon.y2y ls l hl
 have h2:=Canon.y1b ls (show l+1≤21 by omega)
 rw [Canon.kr,←h1,←Nat.add_mul] at h2
 have hp:0<2^(20-l):=Nat.two_pow_pos _
 have h3:Canon.fst ls l+Canon.cn ls l≤(Canon.fst ls l+Canon.cn ls l)*2^(20-l):=Nat.le_mul_of_pos_right _ hp
 unfold Canon.sum at hs
 omega
end B4
namespace B4
open Go.RowKit
attribute [local go_sem ↓] wp_at_zero wp_at_succ
def z0b (k:IntKind) (n:Nat) (C:Nat→Nat):Array Value:=((List.range n).map fun i=>Value.int k (C i:Int)).toArray
theorem z1k {k:IntKind} {n:Nat} {C C':Nat→Nat} (h:∀i,i<n→C i=C' i):z0b k n C=z0b k n C':=by
 unfold z0b
 congr 1
 refine List.map_congr_left fun i hi=>?_
 simp at hi
 rw [h i hi]
def z0a (w:World) (k:IntKind) (t:TypeId) (g n:Nat) (C:Nat→Nat):Prop:=w.heap[g]?=some (.cells (z0b k n C) t (0,0))
section
variable {w w':World} {k:IntKind} {t:TypeId} {g n B:Nat} {C C':Nat→Nat}
theorem z0a.cell (h:z0a w k t g n C) (i:Nat) (hi:i<n):w.cell? ⟨g,i,none⟩=some (.int k (C i:Int)):=by
 simp only [World.cell?,show w.heap[g]?=_ from h]
 simp only [z0b,List.getElem?_toArray,List.getElem?_map]
 rw [List.getElem?_range hi]
 simp
theorem z0a.free (h:z0a w k t g n C) (i:Nat):w.frozen? ⟨g,i,none⟩=false:=by
 simp [World.frozen?,show w.heap[g]?=_ from h]
theorem z0a.lt (h:z0a w k t g n C):g<w.heap.size:=z0d h
theorem z0a.set (h:z0a w k t g n C) (i x:Nat):z0a (w.setCell ⟨g,i,none⟩ (.int k (x:Int))) k t g n (upd C i x):=by
 unfold z0a
 rw [heap_setCell_same w g i _ t (.int k (x:Int)) h]
 congr 2
 apply Array.ext (by simp [z0b])
 intro j j1 j2
 have hj:j<n:=by simpa [z0b] using j2
 rw [Array.getElem_setIfInBounds (by simpa [z0b] using hj)]
 simp only [z0b,upd,List.getElem_toArray,List.getElem_map,List.getElem_range]
 by_cases e:i=j
 ·subst e;simp
 ·rw [if_neg e,if_neg (by omega)]
theorem z0a.stays (h:z0a w k t g n C) (hb:Below B w w') (hg:g<B):z0a w' k t g n C:=by
 unfold z0a
 rw [hb.block g hg]
 exact h
theorem z0a.congr (h:z0a w k t g n C) (hc:∀i,i<n→C i=C' i):z0a w k t g n C':=by
 unfold z0a
 rw [←z1k hc]
 exact h
theorem z0a.other (h:z0a w k t g n C) (a:Addr) (v:Value) (hg:g≠a.block):z0a (w.setCell a v) k t g n C:=by
 unfold z0a
 rw [heap_setCell_other _ _ _ _ hg]
 exact h
theorem z0a.alloc (h:z0a w k t g n C) (o:Obj):z0a (w.alloc o) k t g n C:=by
 unfold z0a
 rw [Below.heap_alloc _ _ _ h.lt]
 exact h
end
theorem info3':(Tryz.prog.info? 3).map (fun i=>(i.zero,i.size,i.bytes))=some (some (.int .i64 0),1,8):=by kernel_rfl
theorem w1c:(Tryz.prog.info? 42).map (fun i=>(i.zero,i.size,i.bytes))=some (some (.int .u32 0),1,4):=by kernel_rfl
theorem z0e (w:World) (n:Nat) (hn:n≤65536):(Instr.makeSlice 49 (.int .i64 (n:Int)) (.int .i64 (n:Int))).run Tryz.prog w=.ok (.slice (some ⟨w.heap.size,0,none⟩) n n) (w.alloc (.cells (z0b .i64 n (fun _=>0)) 3)):=by
 obtain ⟨i0,hi,hz0,hz1,hz2⟩:=info_parts info3'
 have:=run_make (P:=Tryz.prog) w 49 3 i0 (.int .i64 0) Tryz.underlying49 hi hz0 .i64 .i64 (n:Int) (n:Int) (by omega) (by omega) (by rw [hz2];omega) (by omega)
 rw [hz1] at this
 rw [this]
 congr 3
 apply Array.ext (by simp [madeCells,z0b])
 intro k k1 k2
 simp [z0b,madeCells,Value.cells,Nat.mod_one]
theorem x3s (w:World) (n:Nat) (hn:n≤65536):(Instr.makeSlice 41 (.int .i64 (n:Int)) (.int .i64 (n:Int))).run Tryz.prog w=.ok (.slice (some ⟨w.heap.size,0,none⟩) n n) (w.alloc (.cells (z0b .u32 n (fun _=>0)) 42)):=by
 obtain ⟨i0,hi,hz0,hz1,hz2⟩:=info_parts w1c
 have:=run_make (P:=Tryz.prog) w 41 42 i0 (.int .u32 0) Tryz.underlying41 hi hz0 .i64 .i64 (n:Int) (n:Int) (by omega) (by omega) (by rw [hz2];omega) (by omega)
 rw [hz1] at this
 rw [this]
 congr 3
 apply Array.ext (by simp [madeCells,z0b])
 intro k k1 k2
 simp [z0b,madeCells,Value.cells,Nat.mod_one]
theorem count_one (s:Int) (l cb g n c:Nat) (C:Nat→Nat) (w:World) (hc:w.cell? ⟨cb,0,none⟩=some (.slice (some ⟨g,0,none⟩) n c)) (hg:z0a w .i64 3 g n C) (hl:l<n) (hb:C l<1000000) :
  Calls Tryz.prog 126 #[.int .i64 s,.int .i64 (l:Int),.pointer (some ⟨cb,0,none⟩)] w fun e w'=>e=.returned (.tuple #[])∧w'=w.setCell ⟨g,l,none⟩ (.int .i64 ((C l+1:Nat):Int)):=by
 have k1:=hg.cell l hl
 have k2:=hg.free l
 have hln:(l:Int)<(n:Int):=by omega
 obtain ⟨x,hx⟩:∃x,x=C l:=⟨_,rfl⟩
 rw [←hx] at k1 hb ⊢
 clear hg hx
 go_enter Tryz.func126,Tryz.ntmps126
 go_wp2_with fail
 go_end0
 exact ⟨rfl,by rw [show ((x+1:Nat):Int)=(x:Int)+1 by omega]⟩
theorem z6d (ls:List Nat) (k:Nat) (hk:k<ls.length) (h0:0<Canon.ln ls k) (l:Nat):Canon.cn (ls.take (k+1)) l=upd (Canon.cn (ls.take k)) (Canon.ln ls k) (Canon.cn (ls.take k) (Canon.ln ls k)+1) l:=by
 unfold upd Canon.cn
 rw [Canon.z1x ls k l hk,if_neg (show ¬Canon.ln ls k=0 by omega)]
 by_cases e:l=Canon.ln ls k
 ·rw [if_pos e,if_neg (by omega),e,if_pos rfl]
 ·rw [if_neg e]
  by_cases e0:l=0
  ·rw [if_pos e0,if_pos e0]
  ·rw [if_neg e0,if_neg e0,if_neg (by omega)];omega
theorem z6c (ls:List Nat) (k:Nat) (hk:k<ls.length) (h0:¬0<Canon.ln ls k) (l:Nat):Canon.cn (ls.take (k+1)) l=Canon.cn (ls.take k) l:=by
 unfold Canon.cn
 by_cases e0:l=0
 ·rw [if_pos e0,if_pos e0]
 ·rw [if_neg e0,if_neg e0,Canon.z1x ls k l hk,if_neg (by omega)];omega
theorem z9s (ls:List Nat) (k l:Nat):Canon.cn (ls.take k) l≤k:=by
 unfold Canon.cn
 by_cases e0:l=0
 ·rw [if_pos e0];omega
 ·rw [if_neg e0]
  have h1:=List.count_le_length (a:=l) (l:=ls.take k)
  rw [List.length_take] at h1
  omega
theorem x0p (zs:List Int) (most:Int) (h:∀z∈zs,z2l most z) (i:Nat) (hi:i<zs.length):zs.getD i 0=(Canon.ln (nat zs) i:Int)∧(Canon.ln (nat zs) i:Int)≤most:=by
 have h0:=h zs[i] (List.getElem_mem _)
 unfold z2l at h0
 simp [Canon.ln,nat,hi]
 omega
theorem y8i (w0:World) (v:Value) (zs:List Int) (M cb g c:Nat) (w:World) (hr:z0q w0 v zs) (hn:zs.length≤65536) (hz:∀z∈zs,z2l (M:Int) z) (hM:M≤20) (hb:Below w0.heap.size w0 w)
  (hcb:w0.heap.size≤cb) (hg:w0.heap.size≤g) (hne:cb≠g) (hc:w.cell? ⟨cb,0,none⟩=some (.slice (some ⟨g,0,none⟩) (M+1) c)) (hrow:z0a w .i64 3 g (M+1) (fun _=>0)) :
  Calls Tryz.prog 125 #[v,.func (.func 126) #[] #[.pointer (some ⟨cb,0,none⟩)]] w fun e w'=>e=.returned (.tuple #[])∧z0a w' .i64 3 g (M+1) (Canon.cn (nat zs))∧w'.cell? ⟨cb,0,none⟩=some (.slice (some ⟨g,0,none⟩) (M+1) c)∧Below w0.heap.size w0 w':=by
 obtain ⟨a,cap,rfl,hsp⟩:=hr
 obtain ⟨n,hn'⟩:∃n,n=zs.length:=⟨_,rfl⟩
 have HL:Hid (∀i,i<n→zs.getD i 0=(Canon.ln (nat zs) i:Int)∧(Canon.ln (nat zs) i:Int)≤(M:Int)):=qz (fun i hi=>x0p zs _ hz i (by omega))
 have HLEN:Hid ((nat zs).length=n):=qz (by simp [nat,hn'])
 have HSP:=qz hsp
 rw [←hn'] at hn HSP ⊢
 generalize hls:nat zs=ls at HL HLEN ⊢
 have HROW:=qz hrow
 have HB:=qz hb
 have HN:=qz hn'
 clear hsp hz hrow hb hls hn'
 go_enter Tryz.func125,Tryz.ntmps125
 go_wp2_with fail
 go_loopg [8] n (fun gk d ws=>∃ (k:Nat),gk=n-k∧k≤n∧d=.int .i64 (k:Int)∧z0a ws .i64 3 g (M+1) (Canon.cn (ls.take k))∧ws.cell? ⟨cb,0,none⟩=some (.slice (some ⟨g,0,none⟩) (M+1) c)∧Below w0.heap.size w0 ws)
 case atStart=>exact ⟨0,by omega,by omega,rfl,(uh HROW).congr (fun i _=>by simp [Canon.cn]),hc,uh HB⟩
 case round =>
  obtain ⟨k,rfl,hk,rfl,hrow,hcc,hbel⟩:=hrel
  clear HROW HB hc
  by_cases hlt:k<n
  ·obtain ⟨b,off,rfl,hcell⟩:=uh HSP (by omega)
   have k1:=z0c hbel (hcell k (by have:=uh HN;omega))
   obtain ⟨h1,h2⟩:=uh HL k hlt
   rw [h1] at k1
   have hki:(k:Int)<(n:Int):=by omega
   obtain ⟨l,hl⟩:∃l,l=Canon.ln ls k:=⟨_,rfl⟩
   rw [←hl] at k1 h2
   have HLL:=qz hl
   have HLN:=uh HLEN
   by_cases h0:0<l
   ·have e0:(0:Int)<(l:Int):=by omega
    have HH:=qz (z6d ls k (by omega) (by omega))
    have hcl:=z9s ls k l
    have HR:=qz hrow
    have HBE:=qz hbel
    have HC:Hid ((wr.setCell ⟨g,l,none⟩ (.int .i64 ((Canon.cn (ls.take k) l+1:Nat):Int))).cell? ⟨cb,0,none⟩=some (.slice (some ⟨g,0,none⟩) (M+1) c)):=by
     have:(wr.setCell ⟨g,l,none⟩ (.int .i64 ((Canon.cn (ls.take k) l+1:Nat):Int))).heap[cb]?=wr.heap[cb]?:=heap_setCell_other _ _ _ _ (by exact hne)
     show World.cell? _ _=_
     simp only [World.cell?,this]
     exact hcc
    clear hcell h1 hl hrow hbel HLN
    go_wp2_with (go_at_call 126;go_must (refine (count_one _ l cb g (M+1) c _ _ hcc (uh HR) (by omega) (by omega)).mono ?_;rintro e w' ⟨rfl,rfl⟩))
    go_roundg (n-(k+1))
    case measure=>omega
    case rel =>
     refine ⟨k+1,rfl,by omega,by go_num,?_,uh HC,(uh HBE).setCell hg _⟩
     refine ((uh HR).set l _).congr (fun i _=>?_)
     rw [uh HH i,←uh HLL]
   ·have e0:¬ (0:Int)<(l:Int):=by omega
    have HH:=qz (z6c ls k (by omega) (by omega))
    have HR:=qz hrow
    have HBE:=qz hbel
    clear hcell h1 hl hrow hbel HLN
    go_wp2_with fail
    go_roundg (n-(k+1))
    case measure=>omega
    case rel=>exact ⟨k+1,rfl,by omega,by go_num,(uh HR).congr (fun i _=>(uh HH i).symm),hcc,uh HBE⟩
  ·obtain rfl:k=n:=by omega
   have HR:=qz hrow
   have HBE:=qz hbel
   have HLN:=uh HLEN
   clear hrow hbel
   go_wp2_with fail
   go_end0
   refine ⟨rfl,?_,hcc,uh HBE⟩
   have:=uh HR
   rw [List.take_of_length_le (by omega)] at this
   exact this
end B4
namespace B4
open Go.RowKit
section
variable {w w':World} {t:TypeId} {g n B:Nat} {W L W' L':Nat→Nat}
theorem z0i.lt (h:z0i w t g n W L):g<w.heap.size:=z0d h
theorem z0i.other (h:z0i w t g n W L) (a:Addr) (v:Value) (hg:g≠a.block):z0i (w.setCell a v) t g n W L:=by
 unfold z0i
 rw [heap_setCell_other _ _ _ _ hg]
 exact h
theorem z0i.alloc (h:z0i w t g n W L) (o:Obj):z0i (w.alloc o) t g n W L:=by
 unfold z0i
 rw [Below.heap_alloc _ _ _ h.lt]
 exact h
theorem z0i.congr (h:z0i w t g n W L) (h1:∀i,i<n→W i=W' i) (h2:∀i,i<n→L i=L' i):z0i w t g n W' L':=by
 unfold z0i
 rw [←y4o h1 h2]
 exact h
end
theorem z2a {w:World} {a b:Addr} {v:Value} (h:b.block≠a.block):(w.setCell a v).cell? b=w.cell? b:=by
 have:(w.setCell a v).heap[b.block]?=w.heap[b.block]?:=heap_setCell_other _ _ _ _ h
 simp only [World.cell?,this]
structure LayAt (w0 ws:World) (nb wb ng wg M n:Nat) (X W L:Nat→Nat):Prop where
 cn:ws.cell? ⟨nb,0,none⟩=some (.slice (some ⟨ng,0,none⟩) (M+1) (M+1))
 cw:ws.cell? ⟨wb,0,none⟩=some (.slice (some ⟨wg,0,none⟩) n n)
 nx:z0a ws .u32 42 ng (M+1) X
 wd:z0i ws 154 wg n W L
 bel:Below w0.heap.size w0 ws
 o1:w0.heap.size≤ng
 o2:w0.heap.size≤wg
 a1:nb≠ng
 a2:nb≠wg
 a3:wb≠ng
 a4:wb≠wg
 a5:ng≠wg
theorem LayAt.step {w0 ws:World} {nb wb ng wg M n:Nat} {X W L:Nat→Nat} (h:LayAt w0 ws nb wb ng wg M n X W L) (s l x:Nat) (hx:x=X l) :
  LayAt w0 (((ws.setCell ⟨wg,s*2,none⟩ (.int .u32 (x:Int))).setCell ⟨wg,s*2+1,none⟩ (.int .i64 (l:Int))).setCell ⟨ng,l,none⟩ (.int .u32 ((x+1:Nat):Int))) nb wb ng wg M n (upd X l (x+1)) (upd W s x) (upd L s l):=by
 subst hx
 refine ⟨?_,?_,?_,?_,?_,h.o1,h.o2,h.a1,h.a2,h.a3,h.a4,h.a5⟩
 ·rw [z2a (by exact h.a1),z2a (by exact h.a2),z2a (by exact h.a2)];exact h.cn
 ·rw [z2a (by exact h.a3),z2a (by exact h.a4),z2a (by exact h.a4)];exact h.cw
 ·exact ((h.nx.other _ _ (by exact h.a5)).other _ _ (by exact h.a5)).set l _
 ·exact (h.wd.set s _ _).other _ _ (by exact h.a5.symm)
 ·exact ((h.bel.setCell (by exact h.o2) _).setCell (by exact h.o2) _).setCell (by exact h.o1) _
theorem LayAt.drew {w0 ws:World} {nb wb ng wg M n:Nat} {X W L:Nat→Nat} (h:LayAt w0 ws nb wb ng wg M n X W L):LayAt w0 ws.drew nb wb ng wg M n X W L :=
 ⟨h.cn,h.cw,h.nx,h.wd,h.bel.drew,h.o1,h.o2,h.a1,h.a2,h.a3,h.a4,h.a5⟩
theorem x9c (w0:World) (s l nb wb ng wg M n:Nat) (X W L:Nat→Nat) (w:World) (h:LayAt w0 w nb wb ng wg M n X W L) (hl:l<M+1) (hM:M≤20) (hs:s<n) (hn:n≤65536) (hx:X l<100000000) :
  Calls Tryz.prog 127 #[.int .i64 (s:Int),.int .i64 (l:Int),.pointer (some ⟨nb,0,none⟩),.pointer (some ⟨wb,0,none⟩)] w fun e w'=>e=.returned (.tuple #[])∧LayAt w0 w' nb wb ng wg M n (upd X l (X l+1)) (upd W s (X l)) (upd L s l):=by
 have H:=qz h.drew
 have c1:=h.cn
 have c2:=h.cw
 have k1:=h.nx.cell l hl
 have k2:=h.nx.free l
 have k3:=h.wd.word s hs
 have k4:=h.wd.len s hs
 have k5:=h.wd.free (s*2)
 have k6:=h.wd.free (s*2+1)
 have a1:=h.a1
 have a2:=h.a2
 have a3:=h.a3
 have a4:=h.a4
 have a5:=h.a5
 have hl2:=h.nx.lt
 have hl3:=h.wd.lt
 have hln:(l:Int)<(M:Int)+1:=by omega
 have hsn:(s:Int)<(n:Int):=by omega
 obtain ⟨x,hx'⟩:∃x,x=X l:=⟨_,rfl⟩
 rw [←hx'] at k1 hx ⊢
 have HX:=qz hx'
 clear h hx'
 go_enter Tryz.func127,Tryz.ntmps127
 go_wp2_with fail
 refine z1y 9 (by kernel_rfl) (by kernel_rfl) ?_
 simp only [List.take_succ_cons,List.take_zero,List.drop_succ_cons,List.drop_zero]
 repeat still_step
 try refine wpStill_nil ?_
 replace c1:w.drew.cell? ⟨nb,0,none⟩=some (.slice (some ⟨ng,0,none⟩) (M+1) (M+1)):=c1
 replace c2:w.drew.cell? ⟨wb,0,none⟩=some (.slice (some ⟨wg,0,none⟩) n n):=c2
 replace k1:w.drew.cell? ⟨ng,l,none⟩=some (.int .u32 (x:Int)):=k1
 replace k2:w.drew.frozen? ⟨ng,l,none⟩=false:=k2
 replace k3:w.drew.cell? ⟨wg,s*2,none⟩=some (.int .u32 (W s:Int)):=k3
 replace k4:w.drew.cell? ⟨wg,s*2+1,none⟩=some (.int .i64 (L s:Int)):=k4
 replace k5:w.drew.frozen? ⟨wg,s*2,none⟩=false:=k5
 replace k6:w.drew.frozen? ⟨wg,s*2+1,none⟩=false:=k6
 replace hl2:ng<w.drew.heap.size:=hl2
 replace hl3:wg<w.drew.heap.size:=hl3
 generalize w.drew=wq at *
 go_wp2_with fail
 go_end0
 refine ⟨rfl,?_⟩
 have:=(uh H).step s l x (uh HX)
 rw [show ((x+1:Nat):Int)=(x:Int)+1 by omega] at this
 exact this
theorem x4w (w0:World) (v:Value) (zs:List Int) (nb wb ng wg M:Nat) (w:World) (hr:z0q w0 v zs) (hn:zs.length≤65536) (hz:∀z∈zs,z2l (M:Int) z) (hM:M≤20) (hsum:Canon.sum (nat zs)≤1048576)
  (h:LayAt w0 w nb wb ng wg M zs.length (Canon.fst (nat zs)) (fun _=>0) (fun _=>0)) :
  Calls Tryz.prog 125 #[v,.func (.func 127) #[] #[.pointer (some ⟨nb,0,none⟩),.pointer (some ⟨wb,0,none⟩)]] w fun e w'=>e=.returned (.tuple #[])∧∃X,LayAt w0 w' nb wb ng wg M zs.length X (wdz (nat zs)) (Canon.ln (nat zs)):=by
 obtain ⟨a,cap,rfl,hsp⟩:=hr
 obtain ⟨n,hn'⟩:∃n,n=zs.length:=⟨_,rfl⟩
 have HL:Hid (∀i,i<n→zs.getD i 0=(Canon.ln (nat zs) i:Int)∧(Canon.ln (nat zs) i:Int)≤(M:Int)):=qz (fun i hi=>x0p zs _ hz i (by omega))
 have HLEN:Hid ((nat zs).length=n):=qz (by simp [nat,hn'])
 have HSP:=qz hsp
 rw [←hn'] at hn HSP h ⊢
 generalize hls:nat zs=ls at HL HLEN h hsum ⊢
 have HF:=qz (fun l hl=>x7v (ls:=ls) hsum l hl)
 have H0:=qz h
 have HN:=qz hn'
 clear hsp hz h hls hn' hsum
 go_enter Tryz.func125,Tryz.ntmps125
 go_wp2_with fail
 go_loopg [8] n (fun gk d ws=>∃ (k:Nat),gk=n-k∧k≤n∧d=.int .i64 (k:Int)∧LayAt w0 ws nb wb ng wg M n (fun l=>Canon.fst ls l+Canon.cn (ls.take k) l) (fun i=>if i<k then wdz ls i else 0) (fun i=>if i<k then Canon.ln ls i else 0))
 case atStart =>
  refine ⟨0,by omega,by omega,rfl,?_⟩
  have:=uh H0
  refine ⟨this.cn,this.cw,this.nx.congr (fun i _=>by simp [Canon.cn]),this.wd.congr (fun i _=>by simp) (fun i _=>by simp),this.bel,this.o1,this.o2,this.a1,this.a2,this.a3,this.a4,this.a5⟩
 case round =>
  obtain ⟨k,rfl,hk,rfl,hst⟩:=hrel
  clear H0
  by_cases hlt:k<n
  ·obtain ⟨b,off,rfl,hcell⟩:=uh HSP (by omega)
   have k1:=z0c hst.bel (hcell k (by have:=uh HN;omega))
   obtain ⟨h1,h2⟩:=uh HL k hlt
   rw [h1] at k1
   have hki:(k:Int)<(n:Int):=by omega
   have HLN:=uh HLEN
   by_cases h0:0<Canon.ln ls k
   ·have hcn:=z6d ls k (by omega) h0
    have hfl:=uh HF (Canon.ln ls k) (by omega)
    have hcl:Canon.cn (ls.take k) (Canon.ln ls k)≤Canon.cn ls (Canon.ln ls k):=by
     unfold Canon.cn
     rw [if_neg (by omega),if_neg (by omega)]
     have:=Canon.z3i ls (Canon.ln ls k) (show k≤ls.length by omega)
     rw [List.take_length] at this
     exact this
    have hxl:Canon.fst ls (Canon.ln ls k)+Canon.cn (ls.take k) (Canon.ln ls k)<100000000:=by omega
    have hwd:Canon.fst ls (Canon.ln ls k)+Canon.cn (ls.take k) (Canon.ln ls k)=wdz ls k:=by
     rw [wdz,if_neg (by omega),Canon.wd,Canon.rk,Canon.cn,if_neg (by omega)]
    have HN2:Hid (∀w',LayAt w0 w' nb wb ng wg M n (upd (fun l=>Canon.fst ls l+Canon.cn (ls.take k) l) (Canon.ln ls k) (Canon.fst ls (Canon.ln ls k)+Canon.cn (ls.take k) (Canon.ln ls k)+1)) (upd (fun i=>if i<k then wdz ls i else 0) k (Canon.fst ls (Canon.ln ls k)+Canon.cn (ls.take k) (Canon.ln ls k))) (upd (fun i=>if i<k then Canon.ln ls i else 0) k (Canon.ln ls k)) →
      LayAt w0 w' nb wb ng wg M n (fun l=>Canon.fst ls l+Canon.cn (ls.take (k+1)) l) (fun i=>if i<k+1 then wdz ls i else 0) (fun i=>if i<k+1 then Canon.ln ls i else 0)):=by
     intro w' h
     refine ⟨h.cn,h.cw,h.nx.congr (fun i _=>?_),h.wd.congr (fun i _=>?_) (fun i _=>?_),h.bel,h.o1,h.o2,h.a1,h.a2,h.a3,h.a4,h.a5⟩
     ·rw [hcn i]
      unfold upd
      by_cases e:i=Canon.ln ls k
      ·rw [if_pos e,if_pos e,e];omega
      ·rw [if_neg e,if_neg e]
     ·unfold upd
      by_cases e:i=k
      ·rw [if_pos e,if_pos (by omega),e];exact hwd
      ·rw [if_neg e]
       dsimp only
       by_cases e2:i<k
       ·rw [if_pos e2,if_pos (by omega)]
       ·rw [if_neg e2,if_neg (by omega)]
     ·unfold upd
      by_cases e:i=k
      ·rw [if_pos e,if_pos (by omega),e]
      ·rw [if_neg e]
       dsimp only
       by_cases e2:i<k
       ·rw [if_pos e2,if_pos (by omega)]
       ·rw [if_neg e2,if_neg (by omega)]
    have HXL:=qz hxl
    have HST:=qz hst
    have hlM:Canon.ln ls k<M+1:=by omega
    have HLK:Hid (∀w',LayAt w0 w' nb wb ng wg M n (fun l=>Canon.fst ls l+Canon.cn (ls.take k) l) (fun i=>if i<k then wdz ls i else 0) (fun i=>if i<k then Canon.ln ls i else 0) →
      Calls Tryz.prog 127 #[.int .i64 (k:Int),.int .i64 (Canon.ln ls k:Int),.pointer (some ⟨nb,0,none⟩),.pointer (some ⟨wb,0,none⟩)] w' fun e w'=>e=.returned (.tuple #[])∧LayAt w0 w' nb wb ng wg M n (upd (fun l=>Canon.fst ls l+Canon.cn (ls.take k) l) (Canon.ln ls k) (Canon.fst ls (Canon.ln ls k)+Canon.cn (ls.take k) (Canon.ln ls k)+1)) (upd (fun i=>if i<k then wdz ls i else 0) k (Canon.fst ls (Canon.ln ls k)+Canon.cn (ls.take k) (Canon.ln ls k))) (upd (fun i=>if i<k then Canon.ln ls i else 0) k (Canon.ln ls k))):=by
     intro w' h
     exact x9c w0 k (Canon.ln ls k) nb wb ng wg M n _ _ _ w' h hlM hM hlt hn (uh HXL)
    have e0:(0:Int)<(Canon.ln ls k:Int):=by omega
    clear hcell h1 hst HLN hcn hfl hcl hxl hwd h0 HXL
    go_wp2_with (go_at_call 127;go_must (refine (uh HLK _ (uh HST)).mono ?_;rintro e w' ⟨rfl,hq⟩;have HQ:=qz hq;clear hq))
    go_roundg (n-(k+1))
    case measure=>omega
    case rel=>exact ⟨k+1,rfl,by omega,by go_num,uh HN2 _ (uh HQ)⟩
   ·have e0:¬ (0:Int)<(Canon.ln ls k:Int):=by omega
    have hcn:=z6c ls k (by omega) h0
    have HN2:Hid (LayAt w0 wr nb wb ng wg M n (fun l=>Canon.fst ls l+Canon.cn (ls.take (k+1)) l) (fun i=>if i<k+1 then wdz ls i else 0) (fun i=>if i<k+1 then Canon.ln ls i else 0)):=by
     have h:=hst
     refine ⟨h.cn,h.cw,h.nx.congr (fun i _=>?_),h.wd.congr (fun i _=>?_) (fun i _=>?_),h.bel,h.o1,h.o2,h.a1,h.a2,h.a3,h.a4,h.a5⟩
     ·rw [hcn i]
     ·by_cases e:i=k
      ·rw [if_neg (by omega),if_pos (by omega),e,wdz,if_pos (by omega)]
      ·by_cases e2:i<k
       ·rw [if_pos e2,if_pos (by omega)]
       ·rw [if_neg e2,if_neg (by omega)]
     ·by_cases e:i=k
      ·rw [if_neg (by omega),if_pos (by omega),e];omega
      ·by_cases e2:i<k
       ·rw [if_pos e2,if_pos (by omega)]
       ·rw [if_neg e2,if_neg (by omega)]
    clear hcell h1 hst HLN hcn h0
    go_wp2_with fail
    go_roundg (n-(k+1))
    case measure=>omega
    case rel=>exact ⟨k+1,rfl,by omega,by go_num,uh HN2⟩
  ·obtain rfl:k=n:=by omega
   have HST:=qz hst
   clear hst
   go_wp2_with fail
   go_end0
   have h:=uh HST
   exact ⟨rfl,_,h.cn,h.cw,h.nx,h.wd.congr (fun i hi=>by rw [if_pos hi]) (fun i hi=>by rw [if_pos hi]),h.bel,h.o1,h.o2,h.a1,h.a2,h.a3,h.a4,h.a5⟩
theorem z9l (w:World) (o:Obj) (a:Addr) (h:a.block<w.heap.size):(w.alloc o).cell? a=w.cell? a:=by
 simp only [World.cell?,Below.heap_alloc _ _ _ h]
structure NextAt (w ws:World) (ng M:Nat) (ls:List Nat) (k:Nat):Prop where
 hg:ng=w.heap.size
 var:ws.cell? ⟨ng+1,0,none⟩=some (.slice (some ⟨ng,0,none⟩) (M+1) (M+1))
 nx:z0a ws .u32 42 ng (M+1) (fun l=>if l<k then Canon.fst ls l else 0)
 bel:Below w.heap.size w ws
 size:ws.heap.size=ng+2
theorem NextAt.start (w:World) (M:Nat) (ls:List Nat):NextAt w ((w.alloc (.cells (z0b .u32 (M+1) fun _=>0) 42)).alloc (.cells #[.slice (some ⟨w.heap.size,0,none⟩) (M+1) (M+1)] 41)) w.heap.size M ls 1:=by
 refine ⟨rfl,?_,?_,((Below.refl _ _).alloc (Nat.le_refl _) _).alloc (by simp) _,by simp⟩
 ·have h1:((w.alloc (.cells (z0b .u32 (M+1) fun _=>0) 42)).alloc (.cells #[.slice (some ⟨w.heap.size,0,none⟩) (M+1) (M+1)] 41)).heap[w.heap.size+1]?=some (.cells #[.slice (some ⟨w.heap.size,0,none⟩) (M+1) (M+1)] 41 (0,0)):=by
   rw [show w.heap.size+1=(w.alloc (.cells (z0b .u32 (M+1) fun _=>0) 42)).heap.size by simp]
   exact heap_alloc_new _ _
  simp only [World.cell?,h1]
  rfl
 ·refine (z0a.alloc (show z0a _ _ _ _ _ _ from heap_alloc_new w _) _).congr (fun i _=>?_)
  by_cases e:i<1
  ·obtain rfl:i=0:=by omega
   simp [Canon.fst]
  ·rw [if_neg e]
theorem NextAt.step {w ws:World} {ng M:Nat} {ls:List Nat} {m:Nat} (h:NextAt w ws ng M ls (m+1)) (hm:m+1<M+1) :
  NextAt w (ws.setCell ⟨ng,m+1,none⟩ (.int .u32 (((Canon.fst ls m+Canon.cn ls m)*2:Nat):Int))).drew ng M ls (m+1+1):=by
 refine ⟨h.hg,?_,?_,(h.bel.setCell (by rw [h.hg];exact Nat.le_refl _) _).drew,by simpa using h.size⟩
 ·show (ws.setCell _ _).cell? _=_
  rw [z2a (by simp)];exact h.var
 ·refine (h.nx.set (m+1) _).congr (fun i _=>?_)
  unfold upd
  by_cases e:i=m+1
  ·rw [if_pos e,if_pos (by omega),e];rfl
  ·rw [if_neg e]
   dsimp only
   by_cases e2:i<m+1
   ·rw [if_pos e2,if_pos (by omega)]
   ·rw [if_neg e2,if_neg (by omega)]
theorem NextAt.lay {w wr:World} {ng M:Nat} {zs:List Int} (h:NextAt w wr ng M (nat zs) (M+1)) :
  LayAt w ((wr.alloc (.cells (z1z zs.length (fun _=>0) fun _=>0) 154)).alloc (.cells #[.slice (some ⟨wr.heap.size,0,none⟩) zs.length zs.length] 147)) (ng+1) (wr.heap.size+1) ng wr.heap.size M zs.length (Canon.fst (nat zs)) (fun _=>0) (fun _=>0):=by
 have hg:=h.hg
 have hsz:=h.size
 refine ⟨?_,?_,?_,?_,?_,by omega,by omega,by omega,by omega,by omega,by omega,by omega⟩
 ·rw [z9l _ _ _ (by simp [hsz]),z9l _ _ _ (by simp [hsz])];exact h.var
 ·have h1:((wr.alloc (.cells (z1z zs.length (fun _=>0) fun _=>0) 154)).alloc (.cells #[.slice (some ⟨wr.heap.size,0,none⟩) zs.length zs.length] 147)).heap[wr.heap.size+1]?=some (.cells #[.slice (some ⟨wr.heap.size,0,none⟩) zs.length zs.length] 147 (0,0)):=by
   rw [show wr.heap.size+1=(wr.alloc (.cells (z1z zs.length (fun _=>0) fun _=>0) 154)).heap.size by simp]
   exact heap_alloc_new _ _
  simp only [World.cell?,h1]
  rfl
 ·exact ((h.nx.congr (fun i hi=>by rw [if_pos hi])).alloc _).alloc _
 ·exact z0i.alloc (show z0i _ _ _ _ _ _ from heap_alloc_new wr _) _
 ·exact (h.bel.alloc h.bel.size _).alloc (by simp;omega) _
end B4
end Go.Proofs.YtljdhaepkhhnlaaGreat
