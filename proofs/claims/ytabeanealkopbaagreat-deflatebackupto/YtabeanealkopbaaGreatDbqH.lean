/- Texts of one proof, one behind the other: Cw, Cx, Cy, Cz, L5Kit, L5Range, L5Rounds, L5App, L5Aid, L5Pack, L5AidTwo, L5MAt, L5Mgd, L5Shelf. -/
import Derived.Test.YtabeanealkopbaaGreatDbqG
import Derived.Test.YtabeanealkopbaaGreatRows
import Derived.WalkKit
import Derived.WalkSpells
import Derived.Handy
import Derived.Laws.Rows
import Derived.WalkMore
import Derived.Deep.LoopGhost
import Derived.Deep.RegionHeld3
import Derived.Deep.AppendLies
import Derived.Deep.DrawnRows
import Derived.Deep.DeepMust
import Derived.StillTailTactics
import Derived.Laws.CopyOwn
import Derived.Laws.IdiomStrings
import Derived.BigQuiet
import Derived.Deep.QuietTactic
import Derived.OwnWalk
import Derived.Deep.WholeRow
import Derived.Deep.DeepCutAuto
import Derived.Laws.AppendOwnNone
import Derived.RangeFuncNested
import Derived.RangeFuncBound
import Derived.RangeFuncCalls
import Derived.RangeFuncLeaves
import Derived.Shelf.Abstract
import Derived.Shelf.RegionOpen
import Derived.OwnWalkIn
import Derived.TacticsInMore
import Derived.LoopNIn
import Derived.LoopIn
import Derived.Shelf.SlSortCmp.NoneTotal
import Derived.Shelf.SlicesG.Cmp
import Derived.Test.YtabeanealkopbaaGreatProg

set_option linter.unusedVariables false
set_option maxRecDepth 100000
set_option maxHeartbeats 24000000
namespace Go.Proofs.YtabeanealkopbaaGreat
namespace W4
open Go.RowKit Mth Infl Defl
attribute [local go_sem ↓] wp_at_zero wp_at_succ
theorem put83_ok {w0 w:World} {v0:Value} {pb:Nat} {L:List Bool} (h:WrAt w0 v0 pb L w) (ls:List Nat) (cp lo hi s m x ub cb:Nat) (v1 v2:Value) (hc:Code ls w cp lo hi) (hhi:hi≤w.heap.size) (he:EvOk ls s m x) (hb:L.length+40≤1000000000000000) (hu:w.heap[ub]?=some (.cells #[.pointer (some ⟨pb,0,none⟩)] 33 (0,0))) (hcb:w.heap[cb]?=some (.cells #[v1,v2] 39 (0,0))) (hv:v1=.pointer (some ⟨cp,0,none⟩)) :
  Calls Tryz.prog 83 #[wv s m x,.pointer (some ⟨ub,0,none⟩),.pointer (some ⟨cb,0,none⟩)] w fun e w'=>e=.returned (.tuple #[])∧WrAt w0 v0 pb (L++(wb ls s++nb m x)) w':=by
 obtain ⟨W1,hW1⟩:∃ W1,W1=w.alloc (.cells #[.int .i64 (s:Int),.int .i64 (m:Int),.int .i64 (x:Int)] 141):=⟨_,rfl⟩
 have hb1:Below w.heap.size w W1:=by rw [hW1];exact (Below.refl _ _).alloc (Nat.le_refl _) _
 have x1:W1.heap[w.heap.size]?=some (.cells #[.int .i64 (s:Int),.int .i64 (m:Int),.int .i64 (x:Int)] 141 (0,0)):=by rw [hW1];exact heap_alloc_new _ _
 have hu1:W1.heap[ub]?=some (.cells #[.pointer (some ⟨pb,0,none⟩)] 33 (0,0)):=(hb1.block _ (heap_lt hu)).trans hu
 have hcb1:W1.heap[cb]?=some (.cells #[v1,v2] 39 (0,0)):=(hb1.block _ (heap_lt hcb)).trans hcb
 subst hv
 have d1:W1.cell? ⟨ub,0,none⟩=some (.pointer (some ⟨pb,0,none⟩)):=by simp only [World.cell?,hu1];rfl
 have d2:W1.cell? ⟨cb,0,none⟩=some (.pointer (some ⟨cp,0,none⟩)):=by simp only [World.cell?,hcb1];rfl
 have d0:W1.cell? ⟨w.heap.size,0,none⟩=some (.int .i64 (s:Int)):=by simp only [World.cell?,x1];rfl
 rw [hW1] at d1 d2
 have HW:=qz (wput_ok (h.below hb1) ls cp lo hi s m x (hc.keep fun k k1 k2=>hb1.block k (by omega)) (Nat.le_trans hhi hb1.size) he hb)
 unfold wv at HW ⊢
 clear h hc he hb hhi hb1 x1 hu1 hcb1 hu hcb d0
 go_enter Tryz.func83,Tryz.ntmps83
 go_wp2_with fail
 rw [← hW1]
 clear d1 d2 hW1
 refine (uh HW).mono ?_
 rintro e w2 ⟨rfl,h2⟩
 have H2:=qz h2
 clear h2 HW
 go_wp2_with fail
 go_end0
 exact ⟨rfl,uh H2⟩
theorem put85_ok {w0 w:World} {v0:Value} {pb:Nat} {L:List Bool} (h:WrAt w0 v0 pb L w) (ls:List Nat) (cp lo hi s m x ub cb:Nat) (v1 v2:Value) (hc:Code ls w cp lo hi) (hhi:hi≤w.heap.size) (he:EvOk ls s m x) (hb:L.length+40≤1000000000000000) (hu:w.heap[ub]?=some (.cells #[.pointer (some ⟨pb,0,none⟩)] 33 (0,0))) (hcb:w.heap[cb]?=some (.cells #[v1,v2] 39 (0,0))) (hv:v2=.pointer (some ⟨cp,0,none⟩)) :
  Calls Tryz.prog 85 #[wv s m x,.pointer (some ⟨ub,0,none⟩),.pointer (some ⟨cb,0,none⟩)] w fun e w'=>e=.returned (.tuple #[])∧WrAt w0 v0 pb (L++(wb ls s++nb m x)) w':=by
 obtain ⟨W1,hW1⟩:∃ W1,W1=w.alloc (.cells #[.int .i64 (s:Int),.int .i64 (m:Int),.int .i64 (x:Int)] 141):=⟨_,rfl⟩
 have hb1:Below w.heap.size w W1:=by rw [hW1];exact (Below.refl _ _).alloc (Nat.le_refl _) _
 have x1:W1.heap[w.heap.size]?=some (.cells #[.int .i64 (s:Int),.int .i64 (m:Int),.int .i64 (x:Int)] 141 (0,0)):=by rw [hW1];exact heap_alloc_new _ _
 have hu1:W1.heap[ub]?=some (.cells #[.pointer (some ⟨pb,0,none⟩)] 33 (0,0)):=(hb1.block _ (heap_lt hu)).trans hu
 have hcb1:W1.heap[cb]?=some (.cells #[v1,v2] 39 (0,0)):=(hb1.block _ (heap_lt hcb)).trans hcb
 subst hv
 have d1:W1.cell? ⟨ub,0,none⟩=some (.pointer (some ⟨pb,0,none⟩)):=by simp only [World.cell?,hu1];rfl
 have d2:W1.cell? ⟨cb,1,none⟩=some (.pointer (some ⟨cp,0,none⟩)):=by simp only [World.cell?,hcb1];rfl
 have d0:W1.cell? ⟨w.heap.size,0,none⟩=some (.int .i64 (s:Int)):=by simp only [World.cell?,x1];rfl
 rw [hW1] at d1 d2
 have HW:=qz (wput_ok (h.below hb1) ls cp lo hi s m x (hc.keep fun k k1 k2=>hb1.block k (by omega)) (Nat.le_trans hhi hb1.size) he hb)
 unfold wv at HW ⊢
 clear h hc he hb hhi hb1 x1 hu1 hcb1 hu hcb d0
 go_enter Tryz.func85,Tryz.ntmps85
 go_wp2_with fail
 rw [← hW1]
 clear d1 d2 hW1
 refine (uh HW).mono ?_
 rintro e w2 ⟨rfl,h2⟩
 have H2:=qz h2
 clear h2 HW
 go_wp2_with fail
 go_end0
 exact ⟨rfl,uh H2⟩
structure Chb (sb:Nat) (w x:World):Prop where
 os:x.os=w.os
 tape:x.tape=w.tape
 output:x.output=w.output
 size:w.heap.size≤x.heap.size
 keep:∀ k,k<w.heap.size→k≠sb→x.heap[k]?=w.heap[k]?
theorem Chb.of_below {sb:Nat} {w x:World} (h:Below w.heap.size w x):Chb sb w x:=⟨h.os,h.tape,h.output,h.size,fun k hk _=>h.block k hk⟩
theorem Chb.trans {sb:Nat} {w x y:World} (h:Chb sb w x) (k:Chb sb x y):Chb sb w y:=⟨k.os.trans h.os,k.tape.trans h.tape,k.output.trans h.output,Nat.le_trans h.size k.size,fun j hj hn=>(k.keep j (Nat.lt_of_lt_of_le hj h.size) hn).trans (h.keep j hj hn)⟩
theorem Chb.set {sb:Nat} {w:World} {t:TypeId} {u v:Value} (h:w.heap[sb]?=some (.cells #[u] t (0,0))):(w.setCell ⟨sb,0,none⟩ v).heap[sb]?=some (.cells #[v] t (0,0))∧Chb sb w (w.setCell ⟨sb,0,none⟩ v):=by
 have e:w.setCell ⟨sb,0,none⟩ v={ w with heap:=w.heap.setIfInBounds sb (.cells #[v] t (0,0)) }:=by
  have hl:=heap_lt h
  have hg:w.heap[sb]=.cells #[u] t (0,0):=by rw [Array.getElem?_eq_getElem hl] at h;exact Option.some.inj h
  unfold World.setCell
  congr 1
  apply Array.ext (by simp)
  intro k k1 k2
  by_cases hk:sb=k
  ·subst hk
   simp [Array.getElem_modify,hg]
  ·rw [Array.getElem_modify,if_neg hk,Array.getElem_setIfInBounds,if_neg hk]
 have hl:=heap_lt h
 refine ⟨by rw [e];simp [hl],?_⟩
 rw [e]
 exact ⟨rfl,rfl,rfl,by simp,fun k hk hn=>by simp [Ne.symm hn]⟩
theorem weigh80_ok (w:World) (ls:List Nat) (cp lo hi s m x sb cb S:Nat) (v1 v2:Value) (hc:Code ls w cp lo hi) (hhi:hi≤w.heap.size) (he:EvOk ls s m x) (hS:S≤1000000000000000) (hu:w.heap[sb]?=some (.cells #[.int .i64 (S:Int)] 3 (0,0))) (hcb:w.heap[cb]?=some (.cells #[v1,v2] 39 (0,0))) (hv:v1=.pointer (some ⟨cp,0,none⟩)) :
  Calls Tryz.prog 80 #[wv s m x,.pointer (some ⟨sb,0,none⟩),.pointer (some ⟨cb,0,none⟩)] w fun e w'=>e=.returned (.tuple #[])∧w'.heap[sb]?=some (.cells #[.int .i64 ((S+(wb ls s++nb m x).length:Nat):Int)] 3 (0,0))∧Chb sb w w':=by
 obtain ⟨W1,hW1⟩:∃ W1,W1=w.alloc (.cells #[.int .i64 (s:Int),.int .i64 (m:Int),.int .i64 (x:Int)] 141):=⟨_,rfl⟩
 have hb1:Below w.heap.size w W1:=by rw [hW1];exact (Below.refl _ _).alloc (Nat.le_refl _) _
 have x1:W1.heap[w.heap.size]?=some (.cells #[.int .i64 (s:Int),.int .i64 (m:Int),.int .i64 (x:Int)] 141 (0,0)):=by rw [hW1];exact heap_alloc_new _ _
 have hu1:W1.heap[sb]?=some (.cells #[.int .i64 (S:Int)] 3 (0,0)):=(hb1.block _ (heap_lt hu)).trans hu
 have hcb1:W1.heap[cb]?=some (.cells #[v1,v2] 39 (0,0)):=(hb1.block _ (heap_lt hcb)).trans hcb
 subst hv
 have hne:cb≠sb:=by rintro rfl;rw [hu1] at hcb1;simp at hcb1
 have hne2:w.heap.size≠sb:=by have:=heap_lt hu;omega
 have HR:Hid (∀ y,Chb sb W1 y→y.cell? ⟨w.heap.size,0,none⟩=some (.int .i64 (s:Int))∧y.cell? ⟨w.heap.size,1,none⟩=some (.int .i64 (m:Int))∧y.cell? ⟨w.heap.size,2,none⟩=some (.int .i64 (x:Int))∧y.cell? ⟨cb,0,none⟩=some (.pointer (some ⟨cp,0,none⟩))):=qz (fun y hy=>by
  have a2:=(hy.keep _ (heap_lt hcb1) hne).trans hcb1
  have a3:=(hy.keep _ (heap_lt x1) hne2).trans x1
  refine ⟨?_,?_,?_,?_⟩
  ·simp only [World.cell?,a3];rfl
  ·simp only [World.cell?,a3];rfl
  ·simp only [World.cell?,a3];rfl
  ·simp only [World.cell?,a2];rfl)
 have HR0:Hid (∀ y,Below W1.heap.size W1 y→y.heap[sb]?=some (.cells #[.int .i64 (S:Int)] 3 (0,0))∧y.cell? ⟨sb,0,none⟩=some (.int .i64 (S:Int))):=qz (fun y hy=>by
  have a1:=(hy.block _ (heap_lt hu1)).trans hu1
  refine ⟨a1,?_⟩
  simp only [World.cell?,a1];rfl)
 have HB0:Hid (Below W1.heap.size W1 W1.drew):=qz ⟨rfl,rfl,rfl,Nat.le_refl _,fun _ _=>rfl⟩
 have hlen:(wb ls s++nb m x).length≤28:=by rw [List.length_append,wb_length,nb_length];have:=he.most;have:=he.few;omega
 have HW:Hid (∀ y,Below W1.heap.size W1 y→Calls Tryz.prog 81 #[wv s m x,.pointer (some ⟨cp,0,none⟩)] y fun e w'=>e=.returned (.int .i64 ((wb ls s++nb m x).length:Int))∧Below y.heap.size y w'):=qz (fun y hy=>wweigh_ok ls cp lo hi s m x y (hc.keep fun k k1 k2=>((hb1.trans (hy.mono hb1.size)).block k (by omega))) (Nat.le_trans hhi (Nat.le_trans hb1.size hy.size)) he)
 generalize (wb ls s++nb m x).length=n at hlen HW ⊢
 unfold wv at HW ⊢
 have HB1:=qz hb1
 clear hc he hhi hb1 hu1 hcb1 hu hcb x1 hne hne2
 go_enter Tryz.func80,Tryz.ntmps80
 go_wp2_with fail
 rw [← hW1]
 clear hW1
 refine wp_region_noPanic ?_
 refine wp_region_held_drew (S:=fun y=>Chb sb W1 y) (by kernel_rfl) ⟨rfl,rfl,rfl,Nat.le_refl _,fun _ _ _=>rfl⟩ (fun hHeld=>?_)
 refine hT 1 5 rfl rfl hHeld nPp (v:=?_) (fun x hSx=>?_) ?_
 rotate_left 1
 ·obtain ⟨q2,q3,q4,q5⟩:=uh HR x hSx;go_simp <;> with_reducible rfl
 simp only [sA,sB]
 refine hT 2 6 rfl rfl hHeld nPp (v:=?_) (fun x hSx=>?_) ?_
 rotate_left 1
 ·go_simp <;> with_reducible rfl
 simp only [sA,sB]
 refine hT 3 7 rfl rfl hHeld nPp (v:=?_) (fun x hSx=>?_) ?_
 rotate_left 1
 ·obtain ⟨q2,q3,q4,q5⟩:=uh HR x hSx;go_simp <;> with_reducible rfl
 simp only [sA,sB]
 have HS1:=qz hHeld
 refine held_two (i:=0) (j:=4) (by kernel_rfl) rfl rfl (fun K hK=>?_) (fun K hK=>?_)
 ·have p2:=(uh HR0 _ (uh HB0)).2
  refine held_go 0 4 hK rfl (by rfl) (v:=.int .i64 (S:Int)) (w':=W1.drew) ?_ (uh HS1) ?_
  ·first | (go_simp;done) | (go_simp <;> first | exact ⟨rfl,rfl⟩ | rfl)
  simp only [sA,sB]
  refine held_enter 4 8 (by kernel_rfl) rfl rfl (by rfl) (by go_simp <;> exact ⟨rfl,rfl⟩) ?_
  refine (uh HW _ (uh HB0)).mono ?_
  rintro e w2 ⟨rfl,h2⟩
  have HB2:Hid (Below W1.heap.size W1 w2):=qz ((uh HB0).trans (h2.mono (uh HB0).size))
  have HS2:Hid (Chb sb W1 w2):=qz (Chb.of_below (uh HB2))
  refine ⟨_,rfl,uh HS2,?_⟩
  simp only [sA,sB]
  clear h2
  refine held_one 5 9 (by kernel_rfl) rfl rfl (by rfl) (v:=.int .i64 ((S:Int)+(n:Int))) (w':=w2) ?_ (uh HS2) ?_
  ·first | (go_simp;done) | (go_simp <;> first | exact ⟨rfl,rfl⟩ | rfl | exact IntWalk.i64_in _ (by omega))
  simp only [sA,sB]
  obtain ⟨p1,p2⟩:=uh HR0 w2 (uh HB2)
  have hz:w2.frozen? ⟨sb,0,none⟩=false:=by simp [World.frozen?,p1]
  have HF:=qz (Chb.set (v:=.int .i64 ((S:Int)+(n:Int))) p1)
  refine held_skip 6 (by kernel_rfl) rfl rfl (by rfl) (w':=w2.setCell ⟨sb,0,none⟩ (.int .i64 ((S:Int)+(n:Int)))) ?_ ((uh HS2).trans (uh HF).2) ?_
  ·first | (go_simp;done) | (go_simp <;> rfl)
  refine wpAnyH_done (by kernel_rfl) ?_ _
  refine NoPanic.normal ?_
  have HG:Hid (Chb sb w (w2.setCell ⟨sb,0,none⟩ (.int .i64 ((S:Int)+(n:Int))))):=qz ((Chb.of_below ((uh HB1).trans ((uh HB2).mono (uh HB1).size))).trans (uh HF).2)
  clear p1 p2 hz
  go_wp2_with fail
  go_end0
  rw [show ((S+n:Nat):Int)=(S:Int)+(n:Int) by omega]
  exact ⟨rfl,(uh HF).1,uh HG⟩
 ·refine held_go_enter 4 8 hK rfl (by rfl) (by go_simp <;> exact ⟨rfl,rfl⟩) ?_
  refine (uh HW _ (uh HB0)).mono ?_
  rintro e w2 ⟨rfl,h2⟩
  have HB2:Hid (Below W1.heap.size W1 w2):=qz ((uh HB0).trans (h2.mono (uh HB0).size))
  have HS2:Hid (Chb sb W1 w2):=qz (Chb.of_below (uh HB2))
  refine ⟨_,rfl,uh HS2,?_⟩
  simp only [sA,sB]
  clear h2
  have p2:=(uh HR0 _ (uh HB2)).2
  refine held_one 0 4 (by kernel_rfl) rfl rfl (by rfl) (v:=.int .i64 (S:Int)) (w':=w2) ?_ (uh HS2) ?_
  ·first | (go_simp;done) | (go_simp <;> first | exact ⟨rfl,rfl⟩ | rfl)
  simp only [sA,sB]
  refine held_one 5 9 (by kernel_rfl) rfl rfl (by rfl) (v:=.int .i64 ((S:Int)+(n:Int))) (w':=w2) ?_ (uh HS2) ?_
  ·first | (go_simp;done) | (go_simp <;> first | exact ⟨rfl,rfl⟩ | rfl | exact IntWalk.i64_in _ (by omega))
  simp only [sA,sB]
  obtain ⟨p1,p2⟩:=uh HR0 w2 (uh HB2)
  have hz:w2.frozen? ⟨sb,0,none⟩=false:=by simp [World.frozen?,p1]
  have HF:=qz (Chb.set (v:=.int .i64 ((S:Int)+(n:Int))) p1)
  refine held_skip 6 (by kernel_rfl) rfl rfl (by rfl) (w':=w2.setCell ⟨sb,0,none⟩ (.int .i64 ((S:Int)+(n:Int)))) ?_ ((uh HS2).trans (uh HF).2) ?_
  ·first | (go_simp;done) | (go_simp <;> rfl)
  refine wpAnyH_done (by kernel_rfl) ?_ _
  refine NoPanic.normal ?_
  have HG:Hid (Chb sb w (w2.setCell ⟨sb,0,none⟩ (.int .i64 ((S:Int)+(n:Int))))):=qz ((Chb.of_below ((uh HB1).trans ((uh HB2).mono (uh HB1).size))).trans (uh HF).2)
  clear p1 p2 hz
  go_wp2_with fail
  go_end0
  rw [show ((S+n:Nat):Int)=(S:Int)+(n:Int) by omega]
  exact ⟨rfl,(uh HF).1,uh HG⟩
theorem weigh82_ok (w:World) (ls:List Nat) (cp lo hi s m x sb cb S:Nat) (v1 v2:Value) (hc:Code ls w cp lo hi) (hhi:hi≤w.heap.size) (he:EvOk ls s m x) (hS:S≤1000000000000000) (hu:w.heap[sb]?=some (.cells #[.int .i64 (S:Int)] 3 (0,0))) (hcb:w.heap[cb]?=some (.cells #[v1,v2] 39 (0,0))) (hv:v2=.pointer (some ⟨cp,0,none⟩)) :
  Calls Tryz.prog 82 #[wv s m x,.pointer (some ⟨sb,0,none⟩),.pointer (some ⟨cb,0,none⟩)] w fun e w'=>e=.returned (.tuple #[])∧w'.heap[sb]?=some (.cells #[.int .i64 ((S+(wb ls s++nb m x).length:Nat):Int)] 3 (0,0))∧Chb sb w w':=by
 obtain ⟨W1,hW1⟩:∃ W1,W1=w.alloc (.cells #[.int .i64 (s:Int),.int .i64 (m:Int),.int .i64 (x:Int)] 141):=⟨_,rfl⟩
 have hb1:Below w.heap.size w W1:=by rw [hW1];exact (Below.refl _ _).alloc (Nat.le_refl _) _
 have x1:W1.heap[w.heap.size]?=some (.cells #[.int .i64 (s:Int),.int .i64 (m:Int),.int .i64 (x:Int)] 141 (0,0)):=by rw [hW1];exact heap_alloc_new _ _
 have hu1:W1.heap[sb]?=some (.cells #[.int .i64 (S:Int)] 3 (0,0)):=(hb1.block _ (heap_lt hu)).trans hu
 have hcb1:W1.heap[cb]?=some (.cells #[v1,v2] 39 (0,0)):=(hb1.block _ (heap_lt hcb)).trans hcb
 subst hv
 have hne:cb≠sb:=by rintro rfl;rw [hu1] at hcb1;simp at hcb1
 have hne2:w.heap.size≠sb:=by have:=heap_lt hu;omega
 have HR:Hid (∀ y,Chb sb W1 y→y.cell? ⟨w.heap.size,0,none⟩=some (.int .i64 (s:Int))∧y.cell? ⟨w.heap.size,1,none⟩=some (.int .i64 (m:Int))∧y.cell? ⟨w.heap.size,2,none⟩=some (.int .i64 (x:Int))∧y.cell? ⟨cb,1,none⟩=some (.pointer (some ⟨cp,0,none⟩))):=qz (fun y hy=>by
  have a2:=(hy.keep _ (heap_lt hcb1) hne).trans hcb1
  have a3:=(hy.keep _ (heap_lt x1) hne2).trans x1
  refine ⟨?_,?_,?_,?_⟩
  ·simp only [World.cell?,a3];rfl
  ·simp only [World.cell?,a3];rfl
  ·simp only [World.cell?,a3];rfl
  ·simp only [World.cell?,a2];rfl)
 have HR0:Hid (∀ y,Below W1.heap.size W1 y→y.heap[sb]?=some (.cells #[.int .i64 (S:Int)] 3 (0,0))∧y.cell? ⟨sb,0,none⟩=some (.int .i64 (S:Int))):=qz (fun y hy=>by
  have a1:=(hy.block _ (heap_lt hu1)).trans hu1
  refine ⟨a1,?_⟩
  simp only [World.cell?,a1];rfl)
 have HB0:Hid (Below W1.heap.size W1 W1.drew):=qz ⟨rfl,rfl,rfl,Nat.le_refl _,fun _ _=>rfl⟩
 have hlen:(wb ls s++nb m x).length≤28:=by rw [List.length_append,wb_length,nb_length];have:=he.most;have:=he.few;omega
 have HW:Hid (∀ y,Below W1.heap.size W1 y→Calls Tryz.prog 81 #[wv s m x,.pointer (some ⟨cp,0,none⟩)] y fun e w'=>e=.returned (.int .i64 ((wb ls s++nb m x).length:Int))∧Below y.heap.size y w'):=qz (fun y hy=>wweigh_ok ls cp lo hi s m x y (hc.keep fun k k1 k2=>((hb1.trans (hy.mono hb1.size)).block k (by omega))) (Nat.le_trans hhi (Nat.le_trans hb1.size hy.size)) he)
 generalize (wb ls s++nb m x).length=n at hlen HW ⊢
 unfold wv at HW ⊢
 have HB1:=qz hb1
 clear hc he hhi hb1 hu1 hcb1 hu hcb x1 hne hne2
 go_enter Tryz.func82,Tryz.ntmps82
 go_wp2_with fail
 rw [← hW1]
 clear hW1
 refine wp_region_noPanic ?_
 refine wp_region_held_drew (S:=fun y=>Chb sb W1 y) (by kernel_rfl) ⟨rfl,rfl,rfl,Nat.le_refl _,fun _ _ _=>rfl⟩ (fun hHeld=>?_)
 refine hT 1 5 rfl rfl hHeld nPp (v:=?_) (fun x hSx=>?_) ?_
 rotate_left 1
 ·obtain ⟨q2,q3,q4,q5⟩:=uh HR x hSx;go_simp <;> with_reducible rfl
 simp only [sA,sB]
 refine hT 2 6 rfl rfl hHeld nPp (v:=?_) (fun x hSx=>?_) ?_
 rotate_left 1
 ·go_simp <;> with_reducible rfl
 simp only [sA,sB]
 refine hT 3 7 rfl rfl hHeld nPp (v:=?_) (fun x hSx=>?_) ?_
 rotate_left 1
 ·obtain ⟨q2,q3,q4,q5⟩:=uh HR x hSx;go_simp <;> with_reducible rfl
 simp only [sA,sB]
 have HS1:=qz hHeld
 refine held_two (i:=0) (j:=4) (by kernel_rfl) rfl rfl (fun K hK=>?_) (fun K hK=>?_)
 ·have p2:=(uh HR0 _ (uh HB0)).2
  refine held_go 0 4 hK rfl (by rfl) (v:=.int .i64 (S:Int)) (w':=W1.drew) ?_ (uh HS1) ?_
  ·first | (go_simp;done) | (go_simp <;> first | exact ⟨rfl,rfl⟩ | rfl)
  simp only [sA,sB]
  refine held_enter 4 8 (by kernel_rfl) rfl rfl (by rfl) (by go_simp <;> exact ⟨rfl,rfl⟩) ?_
  refine (uh HW _ (uh HB0)).mono ?_
  rintro e w2 ⟨rfl,h2⟩
  have HB2:Hid (Below W1.heap.size W1 w2):=qz ((uh HB0).trans (h2.mono (uh HB0).size))
  have HS2:Hid (Chb sb W1 w2):=qz (Chb.of_below (uh HB2))
  refine ⟨_,rfl,uh HS2,?_⟩
  simp only [sA,sB]
  clear h2
  refine held_one 5 9 (by kernel_rfl) rfl rfl (by rfl) (v:=.int .i64 ((S:Int)+(n:Int))) (w':=w2) ?_ (uh HS2) ?_
  ·first | (go_simp;done) | (go_simp <;> first | exact ⟨rfl,rfl⟩ | rfl | exact IntWalk.i64_in _ (by omega))
  simp only [sA,sB]
  obtain ⟨p1,p2⟩:=uh HR0 w2 (uh HB2)
  have hz:w2.frozen? ⟨sb,0,none⟩=false:=by simp [World.frozen?,p1]
  have HF:=qz (Chb.set (v:=.int .i64 ((S:Int)+(n:Int))) p1)
  refine held_skip 6 (by kernel_rfl) rfl rfl (by rfl) (w':=w2.setCell ⟨sb,0,none⟩ (.int .i64 ((S:Int)+(n:Int)))) ?_ ((uh HS2).trans (uh HF).2) ?_
  ·first | (go_simp;done) | (go_simp <;> rfl)
  refine wpAnyH_done (by kernel_rfl) ?_ _
  refine NoPanic.normal ?_
  have HG:Hid (Chb sb w (w2.setCell ⟨sb,0,none⟩ (.int .i64 ((S:Int)+(n:Int))))):=qz ((Chb.of_below ((uh HB1).trans ((uh HB2).mono (uh HB1).size))).trans (uh HF).2)
  clear p1 p2 hz
  go_wp2_with fail
  go_end0
  rw [show ((S+n:Nat):Int)=(S:Int)+(n:Int) by omega]
  exact ⟨rfl,(uh HF).1,uh HG⟩
 ·refine held_go_enter 4 8 hK rfl (by rfl) (by go_simp <;> exact ⟨rfl,rfl⟩) ?_
  refine (uh HW _ (uh HB0)).mono ?_
  rintro e w2 ⟨rfl,h2⟩
  have HB2:Hid (Below W1.heap.size W1 w2):=qz ((uh HB0).trans (h2.mono (uh HB0).size))
  have HS2:Hid (Chb sb W1 w2):=qz (Chb.of_below (uh HB2))
  refine ⟨_,rfl,uh HS2,?_⟩
  simp only [sA,sB]
  clear h2
  have p2:=(uh HR0 _ (uh HB2)).2
  refine held_one 0 4 (by kernel_rfl) rfl rfl (by rfl) (v:=.int .i64 (S:Int)) (w':=w2) ?_ (uh HS2) ?_
  ·first | (go_simp;done) | (go_simp <;> first | exact ⟨rfl,rfl⟩ | rfl)
  simp only [sA,sB]
  refine held_one 5 9 (by kernel_rfl) rfl rfl (by rfl) (v:=.int .i64 ((S:Int)+(n:Int))) (w':=w2) ?_ (uh HS2) ?_
  ·first | (go_simp;done) | (go_simp <;> first | exact ⟨rfl,rfl⟩ | rfl | exact IntWalk.i64_in _ (by omega))
  simp only [sA,sB]
  obtain ⟨p1,p2⟩:=uh HR0 w2 (uh HB2)
  have hz:w2.frozen? ⟨sb,0,none⟩=false:=by simp [World.frozen?,p1]
  have HF:=qz (Chb.set (v:=.int .i64 ((S:Int)+(n:Int))) p1)
  refine held_skip 6 (by kernel_rfl) rfl rfl (by rfl) (w':=w2.setCell ⟨sb,0,none⟩ (.int .i64 ((S:Int)+(n:Int)))) ?_ ((uh HS2).trans (uh HF).2) ?_
  ·first | (go_simp;done) | (go_simp <;> rfl)
  refine wpAnyH_done (by kernel_rfl) ?_ _
  refine NoPanic.normal ?_
  have HG:Hid (Chb sb w (w2.setCell ⟨sb,0,none⟩ (.int .i64 ((S:Int)+(n:Int))))):=qz ((Chb.of_below ((uh HB1).trans ((uh HB2).mono (uh HB1).size))).trans (uh HF).2)
  clear p1 p2 hz
  go_wp2_with fail
  go_end0
  rw [show ((S+n:Nat):Int)=(S:Int)+(n:Int) by omega]
  exact ⟨rfl,(uh HF).1,uh HG⟩
end W4
namespace W4
open Go.RowKit Mth Infl Defl
attribute [local go_sem ↓] wp_at_zero wp_at_succ
structure TokBy (l1 l2:List Nat) (ts:List T):Prop where
 ok:TokOk ts
 has:∀ t∈ts,t.has l1 l2
 fin:256<l1.length∧0<Canon.ln l1 256
 m1:∀ s,Canon.ln l1 s≤15
 m2:∀ s,Canon.ln l2 s≤15
 few:ts.length≤1000000000
theorem TokBy.ev {l1 l2:List Nat} {ts:List T} (h:TokBy l1 l2 ts) {l r:List Ev} {b:Bool} {s m y:Nat} (e:allEv ts=l++(b,s,m,y) :: r):EvOk (if b then l1 else l2) s m y∧(evsB l1 l2 l).length≤56000000028:=by
 have ho:=allEv_ok h.ok h.has h.fin h.m1 h.m2
 refine ⟨ho (b,s,m,y) (by rw [e];simp),?_⟩
 have h1:(evsB l1 l2 l).length≤28*l.length:=evsB_len fun x hx=>ho x (by rw [e];simp [hx])
 have h2:=allEv_len ts
 rw [e] at h2
 simp at h2
 have:=h.few
 omega
theorem TokAt8.keep {w w':World} {a:Option Addr} {ts:List T} (h:TokAt8 w a ts) (hk:∀ ad,a=some ad→0<ts.length→w'.heap[ad.block]?=w.heap[ad.block]?):TokAt8 w' a ts:=by
 intro i hi
 obtain ⟨b,off,ha,q1,q2,q3⟩:=h i hi
 have hh:=hk _ ha (by omega)
 refine ⟨b,off,ha,?_,?_,?_⟩
 ·simp only [World.cell?] at q1 ⊢;rw [hh];exact q1
 ·simp only [World.cell?] at q2 ⊢;rw [hh];exact q2
 ·simp only [World.cell?] at q3 ⊢;rw [hh];exact q3
theorem eachPut_ok (l1 l2:List Nat) (ts:List T) (a:Option Addr) (cap c1 c2 lo hi pb ub cb:Nat) (w0 w w2:World) (v0:Value) (L:List Bool) (h:WrAt w0 v0 pb L w) (ht:TwoCodes l1 l2 w0 c1 c2 lo hi) (hhi:hi≤w0.heap.size) (hs:∀ k,lo≤k→k<hi→Safe w0 v0 pb k) (hta:TokAt8 w0 a ts) (hts:∀ ad,a=some ad→0<ts.length→Safe w0 v0 pb ad.block) (hto:TokBy l1 l2 ts) (hb:L.length≤900000000000000)
  (hw2:Below w.heap.size w w2) (hub:w.heap.size≤ub) (hcb:w.heap.size≤cb) (hu:w2.heap[ub]?=some (.cells #[.pointer (some ⟨pb,0,none⟩)] 33 (0,0))) (hc:w2.heap[cb]?=some (.cells #[.pointer (some ⟨c1,0,none⟩),.pointer (some ⟨c2,0,none⟩)] 39 (0,0))) :
  Calls Tryz.prog 79 #[.slice a ts.length cap,.func (.func 83) #[] #[.pointer (some ⟨ub,0,none⟩),.pointer (some ⟨cb,0,none⟩)],.func (.func 85) #[] #[.pointer (some ⟨ub,0,none⟩),.pointer (some ⟨cb,0,none⟩)]] w2 fun e w'=>e=.returned (.tuple #[])∧WrAt w0 v0 pb (L++(tbits l1 l2 ts++wb l1 256)) w':=by
 obtain ⟨v,r1,r2⟩:=h.rebase hw2
 refine (each_put ts a cap _ _ (fun l x=>WrAt w2 v pb (L++evsB l1 l2 l) x) w2 hto.ok hto.few ?_ ?_ ?_ ?_ ?_).mono ?_
 ·exact fun l x x' h hb=>h.below hb
 ·exact fun l x h=>hta.keep fun ad ha hp=>(r2 _ _ h).1.block (hts ad ha hp)
 ·intro l s m y r x0 x e hJ hbx
  obtain ⟨he,hl⟩:=hto.ev e
  rw [if_pos rfl] at he
  obtain ⟨v',q1,q2⟩:=hJ.rebase hbx
  obtain ⟨g1,g2⟩:=r2 _ _ (hJ.below hbx)
  obtain ⟨xx,yy,k1,k2,k3⟩:=ht.a
  have hcode:Code l1 x c1 xx yy:=k1.keep fun k z1 z2=>g1.block (hs k (by omega) (by omega))
  have hsz:=g1.size
  refine (put83_ok q1 l1 c1 xx yy s m y ub cb _ _ hcode (by omega) he (by rw [List.length_append];omega) (g2 ub _ hub hu) (g2 cb _ hcb hc) rfl).mono ?_
  rintro e x' ⟨rfl,p⟩
  have eq:L++evsB l1 l2 (l++[(true,s,m,y)])=(L++evsB l1 l2 l)++(wb l1 s++nb m y):=by rw [evsB_snoc,List.append_assoc];rfl
  refine ⟨rfl,?_,(q2 _ _ p).2⟩
  show WrAt _ _ _ (L++evsB l1 l2 (l++[(true,s,m,y)])) x'
  rw [eq]
  exact (q2 _ _ p).1
 ·intro l s m y r x0 x e hJ hbx
  obtain ⟨he,hl⟩:=hto.ev e
  rw [if_neg (by decide)] at he
  obtain ⟨v',q1,q2⟩:=hJ.rebase hbx
  obtain ⟨g1,g2⟩:=r2 _ _ (hJ.below hbx)
  obtain ⟨xx,yy,k1,k2,k3⟩:=ht.b
  have hcode:Code l2 x c2 xx yy:=k1.keep fun k z1 z2=>g1.block (hs k (by omega) (by omega))
  have hsz:=g1.size
  refine (put85_ok q1 l2 c2 xx yy s m y ub cb _ _ hcode (by omega) he (by rw [List.length_append];omega) (g2 ub _ hub hu) (g2 cb _ hcb hc) rfl).mono ?_
  rintro e x' ⟨rfl,p⟩
  have eq:L++evsB l1 l2 (l++[(false,s,m,y)])=(L++evsB l1 l2 l)++(wb l2 s++nb m y):=by rw [evsB_snoc,List.append_assoc];rfl
  refine ⟨rfl,?_,(q2 _ _ p).2⟩
  show WrAt _ _ _ (L++evsB l1 l2 (l++[(false,s,m,y)])) x'
  rw [eq]
  exact (q2 _ _ p).1
 ·simpa [evsB] using r1
 ·rintro e w' ⟨rfl,q⟩
  refine ⟨rfl,?_⟩
  rw [← evsB_all]
  exact (r2 _ _ q).1
theorem codesPut_ok (l1 l2:List Nat) (ts:List T) (a:Option Addr) (cap c1 c2 lo hi pb:Nat) (w0 w:World) (v0:Value) (L:List Bool) (h:WrAt w0 v0 pb L w) (ht:TwoCodes l1 l2 w0 c1 c2 lo hi) (hhi:hi≤w0.heap.size) (hs:∀ k,lo≤k→k<hi→Safe w0 v0 pb k) (hta:TokAt8 w0 a ts) (hts:∀ ad,a=some ad→0<ts.length→Safe w0 v0 pb ad.block) (hto:TokBy l1 l2 ts) (hb:L.length≤900000000000000) :
  Calls Tryz.prog 56 #[.agg #[.pointer (some ⟨c1,0,none⟩),.pointer (some ⟨c2,0,none⟩)],.pointer (some ⟨pb,0,none⟩),.slice a ts.length cap] w fun e w'=>e=.returned (.tuple #[])∧WrAt w0 v0 pb (L++(tbits l1 l2 ts++wb l1 256)) w':=by
 obtain ⟨W2,hW2⟩:∃ W2,W2=(w.alloc (.cells #[.pointer (some ⟨c1,0,none⟩),.pointer (some ⟨c2,0,none⟩)] 39)).alloc (.cells #[.pointer (some ⟨pb,0,none⟩)] 33):=⟨_,rfl⟩
 have hb2:Below w.heap.size w W2:=by rw [hW2];exact ((Below.refl _ _).alloc (Nat.le_refl _) _).alloc (by simp) _
 have x1:W2.heap[w.heap.size]?=some (.cells #[.pointer (some ⟨c1,0,none⟩),.pointer (some ⟨c2,0,none⟩)] 39 (0,0)):=by rw [hW2,Below.heap_alloc _ _ _ (by simp)];exact heap_alloc_new _ _
 have x2:W2.heap[w.heap.size+1]?=some (.cells #[.pointer (some ⟨pb,0,none⟩)] 33 (0,0)):=by
  rw [hW2,show w.heap.size+1=(w.alloc (.cells #[.pointer (some ⟨c1,0,none⟩),.pointer (some ⟨c2,0,none⟩)] 39)).heap.size by simp];exact heap_alloc_new _ _
 have HE:=qz (eachPut_ok l1 l2 ts a cap c1 c2 lo hi pb (w.heap.size+1) w.heap.size w0 w W2 v0 L h ht hhi hs hta hts hto hb hb2 (by omega) (by omega) x2 x1)
 generalize tbits l1 l2 ts++wb l1 256=B at HE ⊢
 generalize ts.length=n at HE ⊢
 clear h ht hs hta hts hto hb2 x1 x2 hb hhi
 go_enter Tryz.func56,Tryz.ntmps56
 go_wp2_with fail
 rw [← hW2]
 clear hW2
 refine (uh HE).mono ?_
 rintro e w3 ⟨rfl,h3⟩
 have H3:=qz h3
 clear h3 HE
 go_wp2_with fail
 go_end0
 exact ⟨rfl,uh H3⟩
end W4
namespace W4
open Go.RowKit Mth Infl Defl
attribute [local go_sem ↓] wp_at_zero wp_at_succ
theorem eachWeigh_ok (l1 l2:List Nat) (ts:List T) (a:Option Addr) (cap c1 c2 lo hi sb cb:Nat) (w w2:World) (ht:TwoCodes l1 l2 w c1 c2 lo hi) (hhi:hi≤w.heap.size) (hta:TokAt8 w a ts) (hto:TokBy l1 l2 ts)
  (hw2:Below w.heap.size w w2) (hsb:w.heap.size≤sb) (hne:cb≠sb) (hu:w2.heap[sb]?=some (.cells #[.int .i64 0] 3 (0,0))) (hc:w2.heap[cb]?=some (.cells #[.pointer (some ⟨c1,0,none⟩),.pointer (some ⟨c2,0,none⟩)] 39 (0,0))) :
  Calls Tryz.prog 79 #[.slice a ts.length cap,.func (.func 80) #[] #[.pointer (some ⟨sb,0,none⟩),.pointer (some ⟨cb,0,none⟩)],.func (.func 82) #[] #[.pointer (some ⟨sb,0,none⟩),.pointer (some ⟨cb,0,none⟩)]] w2 fun e w'=>e=.returned (.tuple #[])∧w'.heap[sb]?=some (.cells #[.int .i64 ((tbits l1 l2 ts++wb l1 256).length:Int)] 3 (0,0))∧Below w.heap.size w w':=by
 refine (each_weigh ts a cap _ _ (fun l x=>x.heap[sb]?=some (.cells #[.int .i64 ((evsB l1 l2 l).length:Int)] 3 (0,0))∧Chb sb w2 x) w2 hto.ok hto.few ?_ ?_ ?_ ?_ ?_).mono ?_
 ·exact fun l x x' h hb=>⟨(hb.block _ (heap_lt h.1)).trans h.1,h.2.trans (Chb.of_below hb)⟩
 ·intro l x h
  refine hta.keep fun ad ha hp=>?_
  obtain ⟨b,off,hab,q1,_⟩:=hta 0 hp
  rw [ha] at hab
  obtain rfl:ad=_:=Option.some.inj hab
  have hlt:b<w.heap.size:=cell_lt q1
  exact (h.2.keep b (Nat.lt_of_lt_of_le hlt hw2.size) (by omega)).trans (hw2.block b hlt)
 ·intro l s m y r x0 x e hJ hbx
  obtain ⟨he,hl⟩:=hto.ev e
  rw [if_pos rfl] at he
  obtain ⟨j1,j2⟩:=hJ
  have hsx:=heap_lt j1
  have j1x:x.heap[sb]?=_:=(hbx.block _ hsx).trans j1
  have j2x:Chb sb w2 x:=j2.trans (Chb.of_below hbx)
  have hold:∀ k,k<w.heap.size→x.heap[k]?=w.heap[k]?:=fun k hk=>(j2x.keep k (Nat.lt_of_lt_of_le hk hw2.size) (by omega)).trans (hw2.block k hk)
  obtain ⟨xx,yy,k1,k2,k3⟩:=ht.a
  have hcode:Code l1 x c1 xx yy:=k1.keep fun k z1 z2=>hold k (by omega)
  have hsz:=Nat.le_trans hw2.size j2x.size
  refine (weigh80_ok x l1 c1 xx yy s m y sb cb (evsB l1 l2 l).length _ _ hcode (by omega) he (by omega) j1x ((j2x.keep cb (heap_lt hc) hne).trans hc) rfl).mono ?_
  rintro e x' ⟨rfl,p1,p2⟩
  have eq:(evsB l1 l2 (l++[(true,s,m,y)])).length=(evsB l1 l2 l).length+(wb l1 s++nb m y).length:=by rw [evsB_snoc,List.length_append];rfl
  refine ⟨rfl,⟨?_,j2x.trans p2⟩,fun kb o hkb hko=>(p2.keep kb (heap_lt hko) (by omega)).trans hko⟩
  show x'.heap[sb]?=some (.cells #[.int .i64 ((evsB l1 l2 (l++[(true,s,m,y)])).length:Int)] 3 (0,0))
  rw [eq]
  exact p1
 ·intro l s m y r x0 x e hJ hbx
  obtain ⟨he,hl⟩:=hto.ev e
  rw [if_neg (by decide)] at he
  obtain ⟨j1,j2⟩:=hJ
  have hsx:=heap_lt j1
  have j1x:x.heap[sb]?=_:=(hbx.block _ hsx).trans j1
  have j2x:Chb sb w2 x:=j2.trans (Chb.of_below hbx)
  have hold:∀ k,k<w.heap.size→x.heap[k]?=w.heap[k]?:=fun k hk=>(j2x.keep k (Nat.lt_of_lt_of_le hk hw2.size) (by omega)).trans (hw2.block k hk)
  obtain ⟨xx,yy,k1,k2,k3⟩:=ht.b
  have hcode:Code l2 x c2 xx yy:=k1.keep fun k z1 z2=>hold k (by omega)
  have hsz:=Nat.le_trans hw2.size j2x.size
  refine (weigh82_ok x l2 c2 xx yy s m y sb cb (evsB l1 l2 l).length _ _ hcode (by omega) he (by omega) j1x ((j2x.keep cb (heap_lt hc) hne).trans hc) rfl).mono ?_
  rintro e x' ⟨rfl,p1,p2⟩
  have eq:(evsB l1 l2 (l++[(false,s,m,y)])).length=(evsB l1 l2 l).length+(wb l2 s++nb m y).length:=by rw [evsB_snoc,List.length_append];rfl
  refine ⟨rfl,⟨?_,j2x.trans p2⟩,fun kb o hkb hko=>(p2.keep kb (heap_lt hko) (by omega)).trans hko⟩
  show x'.heap[sb]?=some (.cells #[.int .i64 ((evsB l1 l2 (l++[(false,s,m,y)])).length:Int)] 3 (0,0))
  rw [eq]
  exact p1
 ·exact ⟨by simpa [evsB] using hu,Chb.of_below (Below.refl _ _)⟩
 ·rintro e w' ⟨rfl,q1,q2⟩
  rw [evsB_all] at q1
  exact ⟨rfl,q1,q2.os.trans hw2.os,q2.tape.trans hw2.tape,q2.output.trans hw2.output,Nat.le_trans hw2.size q2.size,fun k hk=>(q2.keep k (Nat.lt_of_lt_of_le hk hw2.size) (by omega)).trans (hw2.block k hk)⟩
theorem codesWeigh_ok (l1 l2:List Nat) (ts:List T) (a:Option Addr) (cap c1 c2 lo hi:Nat) (w:World) (ht:TwoCodes l1 l2 w c1 c2 lo hi) (hhi:hi≤w.heap.size) (hta:TokAt8 w a ts) (hto:TokBy l1 l2 ts) :
  Calls Tryz.prog 55 #[.agg #[.pointer (some ⟨c1,0,none⟩),.pointer (some ⟨c2,0,none⟩)],.slice a ts.length cap] w fun e w'=>e=.returned (.int .i64 ((tbits l1 l2 ts++wb l1 256).length:Int))∧Below w.heap.size w w':=by
 obtain ⟨W2,hW2⟩:∃ W2,W2=(w.alloc (.cells #[.pointer (some ⟨c1,0,none⟩),.pointer (some ⟨c2,0,none⟩)] 39)).alloc (.cells #[.int .i64 0] 3):=⟨_,rfl⟩
 have hb2:Below w.heap.size w W2:=by rw [hW2];exact ((Below.refl _ _).alloc (Nat.le_refl _) _).alloc (by simp) _
 have x1:W2.heap[w.heap.size]?=some (.cells #[.pointer (some ⟨c1,0,none⟩),.pointer (some ⟨c2,0,none⟩)] 39 (0,0)):=by rw [hW2,Below.heap_alloc _ _ _ (by simp)];exact heap_alloc_new _ _
 have x2:W2.heap[w.heap.size+1]?=some (.cells #[.int .i64 0] 3 (0,0)):=by
  rw [hW2,show w.heap.size+1=(w.alloc (.cells #[.pointer (some ⟨c1,0,none⟩),.pointer (some ⟨c2,0,none⟩)] 39)).heap.size by simp];exact heap_alloc_new _ _
 have HE:=qz (eachWeigh_ok l1 l2 ts a cap c1 c2 lo hi (w.heap.size+1) w.heap.size w W2 ht hhi hta hto hb2 (by omega) (by omega) x2 x1)
 generalize (tbits l1 l2 ts++wb l1 256).length=B at HE ⊢
 generalize ts.length=n at HE ⊢
 clear ht hta hto hb2 x1 x2 hhi
 go_enter Tryz.func55,Tryz.ntmps55
 go_wp2_with fail
 rw [← hW2]
 clear hW2
 refine (uh HE).mono ?_
 rintro e w3 ⟨rfl,h3,h4⟩
 have d0:w3.cell? ⟨w.heap.size+1,0,none⟩=some (.int .i64 (B:Int)):=by simp [World.cell?,h3]
 have H4:=qz h4
 clear h3 h4 HE
 go_wp2_with fail
 go_ret
 exact ⟨rfl,uh H4⟩
end W4
namespace W4
open Go.RowKit Mth Infl Defl
attribute [local go_sem ↓] wp_at_zero wp_at_succ
theorem tb_len {l1 l2:List Nat} {ts:List T} (h:TokBy l1 l2 ts):(tbits l1 l2 ts++wb l1 256).length≤56000000028:=by
 rw [← evsB_all]
 have h1:=evsB_len (allEv_ok h.ok h.has h.fin h.m1 h.m2)
 have h2:=allEv_len ts
 have:=h.few
 omega
theorem weighFixed_ok (l1 l2:List Nat) (ts:List T) (a:Option Addr) (cap c1 c2 lo hi xb:Nat) (at_:Int) (last:Bool) (plain own:Value) (w:World) (hx:BlkAt w xb last plain (.slice a ts.length cap) (.pointer (some ⟨c1,0,none⟩)) (.pointer (some ⟨c2,0,none⟩)) own) (ht:TwoCodes l1 l2 w c1 c2 lo hi) (hhi:hi≤w.heap.size) (hta:TokAt8 w a ts) (hto:TokBy l1 l2 ts) :
  Calls Tryz.prog 22 #[.pointer (some ⟨xb,0,none⟩),.int .i64 at_] w fun e w'=>e=.returned (.int .i64 ((3+(tbits l1 l2 ts++wb l1 256).length:Nat):Int))∧Below w.heap.size w w':=by
 obtain ⟨_,_,q2,q3,q4,_⟩:=hx.c
 have HK:Hid (∀ y,Below w.heap.size w y→y.cell? ⟨xb,2,none⟩=some (.slice a ts.length cap)∧y.cell? ⟨xb,3,none⟩=some (.pointer (some ⟨c1,0,none⟩))∧y.cell? ⟨xb,4,none⟩=some (.pointer (some ⟨c2,0,none⟩))):=qz (fun y hy=>by
  have:=(hy.block _ (heap_lt hx)).trans hx
  refine ⟨?_,?_,?_⟩ <;> (simp only [World.cell?,this];rfl))
 have HE:Hid (∀ y,Below w.heap.size w y→Calls Tryz.prog 55 #[.agg #[.pointer (some ⟨c1,0,none⟩),.pointer (some ⟨c2,0,none⟩)],.slice a ts.length cap] y fun e w'=>e=.returned (.int .i64 ((tbits l1 l2 ts++wb l1 256).length:Int))∧Below y.heap.size y w'):=qz (fun y hy=>codesWeigh_ok l1 l2 ts a cap c1 c2 lo hi y (ht.keep fun k k1 k2=>hy.block k (by omega)) (Nat.le_trans hhi hy.size) (hta.keep fun ad ha hp=>by
  obtain ⟨b,off,hab,q1,_⟩:=hta 0 hp
  rw [ha] at hab
  obtain rfl:ad=_:=Option.some.inj hab
  exact hy.block b (cell_lt q1)) hto)
 have hB:=tb_len hto
 generalize (tbits l1 l2 ts++wb l1 256).length=B at HE hB ⊢
 generalize ts.length=n at HE HK
 clear ht hta hto hhi hx q2 q3 q4
 go_enter Tryz.func22,Tryz.ntmps22
 go_wp2_with fail
 refine wp_region_noPanic ?_
 refine wp_region_held_drew (S:=fun y=>Below w.heap.size w y) (by kernel_rfl) ⟨rfl,rfl,rfl,Nat.le_refl _,fun _ _=>rfl⟩ (fun hHeld=>?_)
 refine hT 0 5 rfl rfl hHeld nPp (v:=?_) (fun x hSx=>?_) ?_
 rotate_left 1
 ·go_simp <;> with_reducible rfl
 simp only [sA,sB]
 refine hT 1 6 rfl rfl hHeld nPp (v:=?_) (fun x hSx=>?_) ?_
 rotate_left 1
 ·go_simp <;> with_reducible rfl
 simp only [sA,sB]
 refine hT 2 7 rfl rfl hHeld nPp (v:=?_) (fun x hSx=>?_) ?_
 rotate_left 1
 ·go_simp <;> with_reducible rfl
 simp only [sA,sB]
 refine hT 3 8 rfl rfl hHeld nPp (v:=?_) (fun x hSx=>?_) ?_
 rotate_left 1
 ·obtain ⟨q2,q3,q4⟩:=uh HK x hSx;go_simp <;> with_reducible rfl
 simp only [sA,sB]
 refine hT 4 9 rfl rfl hHeld nPp (v:=?_) (fun x hSx=>?_) ?_
 rotate_left 1
 ·go_simp <;> with_reducible rfl
 simp only [sA,sB]
 refine hT 5 10 rfl rfl hHeld nPp (v:=?_) (fun x hSx=>?_) ?_
 rotate_left 1
 ·go_simp <;> with_reducible rfl
 simp only [sA,sB]
 refine hT 6 11 rfl rfl hHeld nPp (v:=?_) (fun x hSx=>?_) ?_
 rotate_left 1
 ·go_simp <;> with_reducible rfl
 simp only [sA,sB]
 refine hT 7 12 rfl rfl hHeld nPp (v:=?_) (fun x hSx=>?_) ?_
 rotate_left 1
 ·obtain ⟨q2,q3,q4⟩:=uh HK x hSx;go_simp <;> with_reducible rfl
 simp only [sA,sB]
 refine held_enter 8 13 (by kernel_rfl) rfl rfl (by rfl) (by go_simp <;> exact ⟨rfl,rfl⟩) ?_
 refine (uh HE _ hHeld).mono ?_
 rintro e w2 ⟨rfl,h2⟩
 have HB2:Hid (Below w.heap.size w w2):=qz (hHeld.trans (h2.mono hHeld.size))
 refine ⟨_,rfl,uh HB2,?_⟩
 simp only [sA,sB]
 clear h2 HE HK hHeld
 refine held_one 9 14 (by kernel_rfl) rfl rfl (by rfl) (v:=.int .i64 (3+(B:Int))) (w':=w2) ?_ (uh HB2) ?_
 ·first | (go_simp;done) | (go_simp <;> first | exact ⟨rfl,rfl⟩ | rfl | exact IntWalk.i64_in _ (by omega))
 simp only [sA,sB]
 refine held_one 10 4 (by kernel_rfl) rfl rfl (by rfl) (v:=.int .i64 (3+(B:Int))) (w':=w2) ?_ (uh HB2) ?_
 ·first | (go_simp;done) | (go_simp <;> first | exact ⟨rfl,rfl⟩ | rfl)
 simp only [sA,sB]
 refine wpAnyH_done (by kernel_rfl) ?_ _
 refine NoPanic.normal ?_
 go_wp2_with fail
 go_ret
 rw [show ((3+B:Nat):Int)=3+(B:Int) by omega]
 exact ⟨rfl,uh HB2⟩
theorem putFixed_ok (l1 l2:List Nat) (ts:List T) (a:Option Addr) (cap c1 c2 lo hi xb pb:Nat) (last:Bool) (plain own:Value) (w0 w:World) (v0:Value) (L:List Bool) (h:WrAt w0 v0 pb L w) (hsx:Safe w0 v0 pb xb) (hx:BlkAt w0 xb last plain (.slice a ts.length cap) (.pointer (some ⟨c1,0,none⟩)) (.pointer (some ⟨c2,0,none⟩)) own) (ht:TwoCodes l1 l2 w0 c1 c2 lo hi) (hhi:hi≤w0.heap.size) (hs:∀ k,lo≤k→k<hi→Safe w0 v0 pb k) (hta:TokAt8 w0 a ts) (hts:∀ ad,a=some ad→0<ts.length→Safe w0 v0 pb ad.block) (hto:TokBy l1 l2 ts) (hb:L.length≤800000000000000) :
  Calls Tryz.prog 23 #[.pointer (some ⟨xb,0,none⟩),.pointer (some ⟨pb,0,none⟩)] w fun e w'=>e=.returned (.tuple #[])∧WrAt w0 v0 pb (L++(head last.toNat 1++(tbits l1 l2 ts++wb l1 256))) w':=by
 obtain ⟨q0,_,q2,q3,q4,_⟩:=hx.c
 have HK:Hid (∀ L' w',WrAt w0 v0 pb L' w'→w'.cell? ⟨xb,2,none⟩=some (.slice a ts.length cap)∧w'.cell? ⟨xb,3,none⟩=some (.pointer (some ⟨c1,0,none⟩))∧w'.cell? ⟨xb,4,none⟩=some (.pointer (some ⟨c2,0,none⟩))):=qz (fun L' w' h'=>⟨h'.cell (p:=⟨xb,2,none⟩) hsx q2,h'.cell (p:=⟨xb,3,none⟩) hsx q3,h'.cell (p:=⟨xb,4,none⟩) hsx q4⟩)
 have HBG:=qz (begin_ok xb pb 2 last w0 w v0 L h hsx q0 (by omega) (by omega) (by omega))
 have HE:Hid (∀ w',WrAt w0 v0 pb (L++head last.toNat (2 - 1)) w'→Calls Tryz.prog 56 #[.agg #[.pointer (some ⟨c1,0,none⟩),.pointer (some ⟨c2,0,none⟩)],.pointer (some ⟨pb,0,none⟩),.slice a ts.length cap] w' fun e w''=>e=.returned (.tuple #[])∧WrAt w0 v0 pb (L++(head last.toNat 1++(tbits l1 l2 ts++wb l1 256))) w''):=qz (fun w' h'=>by
  have:=codesPut_ok l1 l2 ts a cap c1 c2 lo hi pb w0 w' v0 _ h' ht hhi hs hta hts hto (by simp [head,nb_length];omega)
  rwa [List.append_assoc] at this)
 generalize tbits l1 l2 ts++wb l1 256=B at HE ⊢
 generalize ts.length=n at HE HK
 clear ht hta hto hhi hx h hsx hs hts hb q0 q2 q3 q4
 go_enter Tryz.func23,Tryz.ntmps23
 go_wp2_with fail
 refine (uh HBG).mono ?_
 rintro e w1 ⟨rfl,h1⟩
 have HE1:=qz (uh HE _ (h1.below (⟨rfl,rfl,rfl,Nat.le_refl _,fun _ _=>rfl⟩:Below w1.heap.size w1 w1.drew)))
 have hd1:=h1.below (⟨rfl,rfl,rfl,Nat.le_refl _,fun _ _=>rfl⟩:Below w1.heap.size w1 w1.drew)
 clear h1 HBG HE
 go_wp2_with fail
 refine wp_region_noPanic ?_
 refine wp_region_held_drew (S:=fun y=>∃ L',WrAt w0 v0 pb L' y) (by kernel_rfl) ⟨_,hd1⟩ (fun hHeld=>?_)
 clear hd1
 refine hT 0 7 rfl rfl hHeld nPp (v:=?_) (fun x hSx=>?_) ?_
 rotate_left 1
 ·go_simp <;> with_reducible rfl
 simp only [sA,sB]
 refine hT 1 8 rfl rfl hHeld nPp (v:=?_) (fun x hSx=>?_) ?_
 rotate_left 1
 ·go_simp <;> with_reducible rfl
 simp only [sA,sB]
 refine hT 2 9 rfl rfl hHeld nPp (v:=?_) (fun x hSx=>?_) ?_
 rotate_left 1
 ·go_simp <;> with_reducible rfl
 simp only [sA,sB]
 refine hT 3 10 rfl rfl hHeld nPp (v:=?_) (fun x hSx=>?_) ?_
 rotate_left 1
 ·obtain ⟨L',hL'⟩:=hSx;obtain ⟨q2,q3,q4⟩:=uh HK L' x hL';go_simp <;> with_reducible rfl
 simp only [sA,sB]
 refine hT 4 11 rfl rfl hHeld nPp (v:=?_) (fun x hSx=>?_) ?_
 rotate_left 1
 ·go_simp <;> with_reducible rfl
 simp only [sA,sB]
 refine hT 5 12 rfl rfl hHeld nPp (v:=?_) (fun x hSx=>?_) ?_
 rotate_left 1
 ·go_simp <;> with_reducible rfl
 simp only [sA,sB]
 refine hT 6 13 rfl rfl hHeld nPp (v:=?_) (fun x hSx=>?_) ?_
 rotate_left 1
 ·go_simp <;> with_reducible rfl
 simp only [sA,sB]
 refine hT 7 14 rfl rfl hHeld nPp (v:=?_) (fun x hSx=>?_) ?_
 rotate_left 1
 ·go_simp <;> with_reducible rfl
 simp only [sA,sB]
 refine hT 8 15 rfl rfl hHeld nPp (v:=?_) (fun x hSx=>?_) ?_
 rotate_left 1
 ·obtain ⟨L',hL'⟩:=hSx;obtain ⟨q2,q3,q4⟩:=uh HK L' x hL';go_simp <;> with_reducible rfl
 simp only [sA,sB]
 refine held_enter 9 16 (by kernel_rfl) rfl rfl (by rfl) (by go_simp <;> exact ⟨rfl,rfl⟩) ?_
 refine (uh HE1).mono ?_
 rintro e w2 ⟨rfl,h2⟩
 have H2:=qz h2
 refine ⟨_,rfl,⟨_,h2⟩,?_⟩
 simp only [sA,sB]
 clear h2 HE1 HK hHeld
 refine wpAnyH_done (by kernel_rfl) ?_ _
 refine NoPanic.normal ?_
 go_wp2_with fail
 go_end0
 exact ⟨rfl,uh H2⟩
end W4
namespace L5
open Go.RowKit
theorem qz {p:Prop} (h:p):Hid p:=h
theorem uh {p:Prop} (h:Hid p):p:=h
theorem cell_lt {w:World} {p:Addr} {u:Value} (h:w.cell? p=some u):p.block<w.heap.size:=by
 rcases Nat.lt_or_ge p.block w.heap.size with h' | h'
 ·exact h'
 ·simp [World.cell?,Array.getElem?_eq_none h'] at h
theorem cell_stays {w w1:World} (hb:Below w.heap.size w w1) {p:Addr} {u:Value} (h:w.cell? p=some u):w1.cell? p=some u:=by
 rw [hb.cell (cell_lt h)];exact h
theorem heap_lt {w:World} {k:Nat} {o:Obj} (h:w.heap[k]?=some o):k<w.heap.size:=by
 rcases Nat.lt_or_ge k w.heap.size with h' | h'
 ·exact h'
 ·rw [Array.getElem?_eq_none h'] at h;cases h
def ReadsI (w:World) (v:Value) (zs:List Int):Prop :=
 ∃ a cap,v=.slice a zs.length cap∧(0<zs.length→∃ b off,a=some ⟨b,off,none⟩∧∀ j,j<zs.length→w.cell? ⟨b,off+j,none⟩=some (.int .i64 (zs.getD j 0)))
def upd (T:Nat→Nat) (j y:Nat):Nat→Nat:=fun i=>if i=j then y else T i
def icells (k:IntKind) (n:Nat) (C:Nat→Nat):Array Value:=((List.range n).map fun i=>Value.int k (C i:Int)).toArray
theorem icells_congr {k:IntKind} {n:Nat} {C C':Nat→Nat} (h:∀ i,i<n→C i=C' i):icells k n C=icells k n C':=by
 unfold icells
 congr 1
 refine List.map_congr_left fun i hi=>?_
 simp at hi
 rw [h i hi]
def IntsAt (w:World) (k:IntKind) (t:TypeId) (g n:Nat) (C:Nat→Nat):Prop:=w.heap[g]?=some (.cells (icells k n C) t (0,0))
section
variable {w w':World} {k:IntKind} {t:TypeId} {g n B:Nat} {C C':Nat→Nat}
theorem IntsAt.cell (h:IntsAt w k t g n C) (i:Nat) (hi:i<n):w.cell? ⟨g,i,none⟩=some (.int k (C i:Int)):=by
 simp only [World.cell?,show w.heap[g]?=_ from h]
 simp only [icells,List.getElem?_toArray,List.getElem?_map]
 rw [List.getElem?_range hi]
 simp
theorem IntsAt.free (h:IntsAt w k t g n C) (i:Nat):w.frozen? ⟨g,i,none⟩=false:=by
 simp [World.frozen?,show w.heap[g]?=_ from h]
theorem IntsAt.lt (h:IntsAt w k t g n C):g<w.heap.size:=heap_lt h
theorem IntsAt.set (h:IntsAt w k t g n C) (i x:Nat):IntsAt (w.setCell ⟨g,i,none⟩ (.int k (x:Int))) k t g n (upd C i x):=by
 unfold IntsAt
 rw [heap_setCell_same w g i _ t (.int k (x:Int)) h]
 congr 2
 apply Array.ext (by simp [icells])
 intro j j1 j2
 have hj:j<n:=by simpa [icells] using j2
 rw [Array.getElem_setIfInBounds (by simpa [icells] using hj)]
 simp only [icells,upd,List.getElem_toArray,List.getElem_map,List.getElem_range]
 by_cases e:i=j
 ·subst e;simp
 ·rw [if_neg e,if_neg (by omega)]
theorem IntsAt.stays (h:IntsAt w k t g n C) (hb:Below B w w') (hg:g<B):IntsAt w' k t g n C:=by
 unfold IntsAt
 rw [hb.block g hg]
 exact h
theorem IntsAt.congr (h:IntsAt w k t g n C) (hc:∀ i,i<n→C i=C' i):IntsAt w k t g n C':=by
 unfold IntsAt
 rw [← icells_congr hc]
 exact h
theorem IntsAt.other (h:IntsAt w k t g n C) (a:Addr) (v:Value) (hg:g≠a.block):IntsAt (w.setCell a v) k t g n C:=by
 unfold IntsAt
 rw [heap_setCell_other _ _ _ _ hg]
 exact h
theorem IntsAt.alloc (h:IntsAt w k t g n C) (o:Obj):IntsAt (w.alloc o) k t g n C:=by
 unfold IntsAt
 rw [Below.heap_alloc _ _ _ h.lt]
 exact h
end
theorem info3':(Tryz.prog.info? 3).map (fun i=>(i.zero,i.size,i.bytes))=some (some (.int .i64 0),1,8):=by kernel_rfl
theorem ints_made (w:World) (n:Nat) (hn:n≤65536):(Instr.makeSlice 45 (.int .i64 (n:Int)) (.int .i64 (n:Int))).run Tryz.prog w=.ok (.slice (some ⟨w.heap.size,0,none⟩) n n) (w.alloc (.cells (icells .i64 n (fun _=>0)) 3)):=by
 obtain ⟨i0,hi,hz0,hz1,hz2⟩:=info_parts info3'
 have:=run_make (P:=Tryz.prog) w 45 3 i0 (.int .i64 0) Tryz.underlying45 hi hz0 .i64 .i64 (n:Int) (n:Int) (by omega) (by omega) (by rw [hz2];omega) (by omega)
 rw [hz1] at this
 rw [this]
 congr 3
 apply Array.ext (by simp [madeCells,icells])
 intro k k1 k2
 simp [icells,madeCells,Value.cells,Nat.mod_one]
def iv (z:Int):Value:=.int .i64 z
structure Only (rp:Nat) (w w':World):Prop where
 os:w'.os=w.os
 tape:w'.tape=w.tape
 output:w'.output=w.output
 size:w.heap.size≤w'.heap.size
 keep:∀ x,x<w.heap.size→x≠rp→w'.heap[x]?=w.heap[x]?
theorem own_keep {w w':World} {base e size n:Nat} {v:Value} {xs:List Value} (h:w.ownsRow base e size v n xs) (h2:∀ g,v.ownBlock=some g→w'.heap[g]?=w.heap[g]?):w'.ownsRow base e size v n xs:=by
 obtain ⟨hl,hr⟩:=h
 refine ⟨hl,?_⟩
 rcases hr with e | ⟨g,cap,cur,e,hb,hh,r⟩
 ·exact .inl e
 ·exact .inr ⟨g,cap,cur,e,hb,by rw [h2 g (by rw [e];rfl)];exact hh,r⟩
section
variable {ws:World} {v10:Value} {ss:List Int}
theorem own_slice {base n:Nat} {xs:List Value} (h:ws.ownsRow base 3 1 v10 n xs):∃ a c,v10=.slice a n c:=by
 rcases h.2 with ⟨e,rfl⟩ | ⟨g,cap,_,e,_⟩
 ·exact ⟨none,0,e⟩
 ·exact ⟨_,cap,e⟩
end
end L5
namespace L5
open Go.RowKit
variable {F:Fence} {P:Program}
theorem putObj_same {W:World} {l:Nat} {o o':Obj} (h:W.heap[l]?=some o):(W.putObj l o').heap[l]?=some o':=World.putObj_heap_same (Array.getElem?_eq_some_iff.1 h).1
theorem round_on {m l:Nat} {r:Loop} {args:Array Value} {W:World} {I':World→Prop} (hfn:F.fn r.fn) (hl:W.heap[l]?=some (.loop r)) (hr:r.state=.ready) (hp:r.pending=none) (hs:args.size=r.params.size)
  (h:r.assign.wpIn (F.inRound l) m P (Exit.then (fun a' W'=>W'.heap[l]?=some (.loop r)∧r.body.wpIn (F.inRound l) m P (fun e _ W''=>e=.normal∧W''.heap[l]?=some (.loop { r with state:=.busy })∧I' (W''.putObj l (.loop r))) a' (W'.putObj l (.loop { r with state:=.busy }))) (fun _ _ _=>False))
   { tmps:=(r.params.zip args).foldl (fun t (p,v)=>t.setIfInBounds p v) r.tmps,defers:=[] } W) :
  YieldAt F m P l args W fun e W'=>e=.returned (.bool true)∧I' W'∧W'.heap[l]?=some (.loop r):=by
 refine ⟨r.fn,_,r.assign,r.body,run_yield hl hs,roundIn_of_wpIn hfn (wpIn_mono h ?_)⟩
 rintro e a' W' hq
 cases e with
 | normal =>
  obtain ⟨h1,h2⟩:=hq
  refine ⟨_,run_beginRound h1 hr,wpIn_mono h2 ?_⟩
  rintro e a'' W'' ⟨rfl,h3,h4⟩
  have h5:=run_endRound (P:=P) none h3
  have e2:({ { r with state:=.busy } with state:=if (none:Option Go.Code).isNone then .ready else .done,pending:=none }:Loop)=r:=by
   cases r
   simp at hr hp
   subst hr hp
   rfl
  rw [e2] at h5
  exact ⟨_,_,h5,rfl,h4,putObj_same h3⟩
 | _=>exact hq.elim
theorem range_all {n:Nat} {g:Operand} {ps:Array Tmp} {assign body:Go.Code} {Q:Exit→Act→World→Prop} {a:Act} {w:World} (hro:F.round=none) (h1:1≤n) {gf:Nat} {lb:Array Value} (hg:a.eval g=.func (.func gf) #[] lb) (hFg:F.fn gf)
  (eg:∀ args w,(callFunc gf args).run P w=.ok (.enter gf args) w) (encs:Nat→Array Value) (N:Nat) (hps:∀ k,(encs k).size=ps.size) (I:Nat→World→Prop) (hI:OwnFrom w.heap.size I) (h0:I 0 w)
  (hseq:∀ (l:Nat) (J:Nat→World→Prop) (W:World),(∀ k W,J k W→I k W)→J 0 W→(∀ k W1,k<N→J k W1→YieldAt F (n - 1 - 1) P l (encs k) W1 fun e W'=>e=.returned (.bool true)∧J (k+1) W') →
   CallsIn F (n - 1) P gf (#[.func (.yield l) #[] #[]]++lb) W fun e W'=>(∃ v,e=.returned v)∧J N W')
  (Ax:Nat→Act→World→Prop) (hAx:∀ k a',OwnFrom w.heap.size (fun (_:Unit) W=>Ax k a' W))
  (hassign:∀ (l k:Nat) (W:World) (K:Act→World→Prop),k<N→I k W→(∀ a' W',KeepsOthers W W'→I k W'→Ax k a' W'→K a' W') →
   assign.wpIn (F.inRound l) (n - 1 - 1) P (Exit.then K (fun _ _ _=>False)) { tmps:=(ps.zip (encs k)).foldl (fun t (p,v)=>t.setIfInBounds p v) a.tmps,defers:=[] } W)
  (hbody:∀ (l k:Nat) (a':Act) (W:World),k<N→I k W→Ax k a' W→body.wpIn (F.inRound l) (n - 1 - 1) P (fun e _ W''=>e=.normal∧KeepsOthers W W''∧I (k+1) W'') a' W)
  (hdone:∀ (D:Nat) (W:World),w.heap.size≤D→I N W→W.heap[D]?=some (.deferred (some []))→Q .normal { a with defers:={ target:=.collected D,args:=#[] } :: a.defers } W) :
  (Go.Code.rangeFunc g ps assign body).wpIn F n P Q a w:=by
 refine wpIn_rangeFunc fun fn hfn=>?_
 rw [hro]
 obtain ⟨r,hr⟩:∃ r:Loop,r={ state:=.ready,pending:=none,fn:=fn,tmps:=a.tmps,params:=ps,assign:=assign,body:=body,defers:=w.heap.size }:=⟨_,rfl⟩
 have hL:((w.alloc (.deferred (some []))).alloc (.loop r)).heap[w.heap.size+1]?=some (.loop r):=by
  have:=World.alloc_heap_new (w.alloc (.deferred (some []))) (.loop r)
  rwa [World.size_alloc] at this
 have hD:((w.alloc (.deferred (some []))).alloc (.loop r)).heap[w.heap.size]?=some (.deferred (some [])):=(Below.heap_alloc _ _ _ (by simp)).trans (World.alloc_heap_new w _)
 have hI1:I 0 ((w.alloc (.deferred (some []))).alloc (.loop r)):=hI.alloc _ (hI.alloc _ h0)
 obtain ⟨W1,hW1⟩:∃ W1,W1=(w.alloc (.deferred (some []))).alloc (.loop r):=⟨_,rfl⟩
 rw [← hW1] at hL hD hI1
 refine ⟨w.heap.size+1,[{ target:=.collected w.heap.size,args:=#[] }],W1,{ target:=.fn (.func gf) lb,args:=#[.func (.yield (w.heap.size+1)) #[] #[]] },W1,gf,#[.func (.yield (w.heap.size+1)) #[] #[]]++lb,W1,
  (by rw [hW1,hr];exact run_enterLoop_outer _ _ _ _ _),(by simp only [resolve,hg];simp [go_sem]),(fun f' hf'=>by simp [Target.leads] at hf';subst hf';exact hFg),(by simp [invoke,go_sem,eg]),fun _=>h1,?_⟩
 refine (hseq (w.heap.size+1) (fun k W=>I k W∧W.heap[w.heap.size]?=some (.deferred (some []))∧W.heap[w.heap.size+1]?=some (.loop r)) _ (fun k W h=>h.1) ⟨hI1,hD,hL⟩ ?_).mono ?_
 ·rintro k W hk ⟨hi,hd,hl⟩
  have hrd:=round_on (F:=F) (P:=P) (m:=n - 1 - 1) (l:=w.heap.size+1) (r:=r) (args:=encs k) (W:=W) (I':=fun W'=>I (k+1) W'∧W'.heap[w.heap.size]?=some (.deferred (some []))) (by rw [hr];exact hfn) hl (by rw [hr]) (by rw [hr]) (by rw [hr];exact hps k) (by
   have e1:r.assign=assign:=by rw [hr]
   have e2:r.body=body:=by rw [hr]
   have e3:r.params=ps:=by rw [hr]
   have e4:r.tmps=a.tmps:=by rw [hr]
   have hassign':=hassign
   have hbody':=hbody
   rw [← e1,← e3,← e4] at hassign'
   rw [← e2] at hbody'
   refine hassign' _ k W _ hk hi fun a' W' kp hi' hax=>?_
   have hl':=kp.same (w.heap.size+1) (.loop r) hl rfl
   have hd':=kp.same w.heap.size (.deferred (some [])) hd rfl
   refine ⟨hl',wpIn_mono (hbody' _ k a' _ hk (hI.putObj _ hi' (by omega) hl' rfl) ((hAx k a').putObj (s:=()) _ hax (by omega) hl' rfl)) ?_⟩
   rintro e a'' W'' ⟨rfl,kp2,hi2⟩
   have hl2:=kp2.same (w.heap.size+1) (.loop { r with state:=.busy }) (putObj_same hl') rfl
   have hd2:=kp2.same w.heap.size (.deferred (some [])) ((World.putObj_heap_other (by omega)).trans hd') rfl
   exact ⟨rfl,hl2,hI.putObj _ hi2 (by omega) hl2 rfl,(World.putObj_heap_other (by omega)).trans hd2⟩)
  obtain ⟨f',t',as',b',hy,hR⟩:=hrd
  exact ⟨f',t',as',b',hy,hR.mono fun e W' ⟨x1,⟨x2,x3⟩,x4⟩=>⟨x1,x2,x3,x4⟩⟩
 ·rintro e W2 ⟨⟨v,rfl⟩,hi,hd,hl⟩
  have h2:=run_endLoop (P:=P) hl (by rw [hr];simp)
  have e2:r.pending=none:=by rw [hr]
  rw [e2] at h2
  exact ⟨none,_,h2,hdone _ _ (Nat.le_refl _) (hI.putObj _ hi (by omega) hl rfl) ((World.putObj_heap_other (by omega)).trans hd)⟩
end L5
namespace Merge
def goes (A B:List Nat) (s:Nat × Nat):Bool:=decide (s.2=B.length) || (decide (s.1<A.length) && decide (A.getD s.1 0≤B.getD s.2 0))
def st (A B:List Nat):Nat→Nat × Nat
 | 0=>(0,0)
 | m+1=>if goes A B (st A B m)=true then ((st A B m).1+1,(st A B m).2) else ((st A B m).1,(st A B m).2+1)
def item (A B:List Nat) (m:Nat):Nat:=if goes A B (st A B m)=true then A.getD (st A B m).1 0 else B.getD (st A B m).2 0
def mgd (A B:List Nat):List Nat:=(List.range (A.length+B.length)).map (item A B)
def ahd (A B:List Nat):List Nat:=(List.range (A.length+B.length+1)).map fun m=>(st A B m).1
theorem goes_iff {A B:List Nat} {i j:Nat}:goes A B (i,j)=true↔j=B.length∨i<A.length∧A.getD i 0≤B.getD j 0:=by
 simp [goes]
theorem st_ok (A B:List Nat):∀ m,m≤A.length+B.length→(st A B m).1+(st A B m).2=m∧(st A B m).1≤A.length∧(st A B m).2≤B.length
 | 0,_=>by simp [st]
 | m+1,h=>by
  obtain ⟨h1,h2,h3⟩:=st_ok A B m (by omega)
  obtain ⟨⟨i,j⟩,hs⟩:∃ s,st A B m=s:=⟨_,rfl⟩
  rw [hs] at h1 h2 h3
  simp only at h1 h2 h3
  rw [st,hs]
  by_cases hg:goes A B (i,j)=true
  ·rw [if_pos hg]
   rw [goes_iff] at hg
   simp only
   omega
  ·rw [if_neg hg]
   rw [goes_iff] at hg
   simp only
   omega
theorem mgd_length (A B:List Nat):(mgd A B).length=A.length+B.length:=by simp [mgd]
theorem ahd_length (A B:List Nat):(ahd A B).length=A.length+B.length+1:=by simp [ahd]
theorem ahd_get (A B:List Nat) (m:Nat) (h:m≤A.length+B.length):(ahd A B).getD m 0=(st A B m).1:=by
 simp [ahd,List.getD_eq_getElem?_getD,List.getElem?_range (show m<A.length+B.length+1 by omega)]
def fs (l:List Coin):List Nat:=l.map Prod.fst
theorem fs_length (l:List Coin):(fs l).length=l.length:=by simp [fs]
theorem fs_get (l:List Coin) (i:Nat) (h:i<l.length):(fs l).getD i 0=(l[i]).1:=by simp [fs,h]
theorem mrg_step (A B:List Coin):∀ m,m≤A.length+B.length→∃ P,mrg A B=P++mrg (A.drop (st (fs A) (fs B) m).1) (B.drop (st (fs A) (fs B) m).2)∧P.length=m ∧
  P.Perm (A.take (st (fs A) (fs B) m).1++B.take (st (fs A) (fs B) m).2)∧fs P=(List.range m).map (item (fs A) (fs B))
 | 0,_=>⟨[],by simp [st],rfl,by simp [st],rfl⟩
 | m+1,h=>by
  obtain ⟨P,h1,h2,h3,h4⟩:=mrg_step A B m (by omega)
  have hok:=st_ok (fs A) (fs B) m (by rw [fs_length,fs_length];omega)
  rw [fs_length,fs_length] at hok
  have hit:item (fs A) (fs B) m=if goes (fs A) (fs B) (st (fs A) (fs B) m)=true then (fs A).getD (st (fs A) (fs B) m).1 0 else (fs B).getD (st (fs A) (fs B) m).2 0:=rfl
  obtain ⟨⟨i,j⟩,hs⟩:∃ s,st (fs A) (fs B) m=s:=⟨_,rfl⟩
  rw [hs] at h1 h3 hok hit
  simp only at h1 h3 hok hit
  rw [st,hs]
  by_cases hg:goes (fs A) (fs B) (i,j)=true
  ·rw [if_pos hg]
   rw [if_pos hg] at hit
   rw [goes_iff,fs_length,fs_length] at hg
   have hi:i<A.length:=by omega
   simp only
   refine ⟨P++[A[i]],?_,by simp [h2],?_,?_⟩
   ·rw [h1,List.append_assoc]
    congr 1
    rw [List.drop_eq_getElem_cons hi]
    by_cases hj:j=B.length
    ·rw [hj,List.drop_length,mrg_nil_right,mrg_nil_right];rfl
    ·have hj':j<B.length:=by omega
     have hle:(A[i]).1≤(B[j]).1:=by
      have:=(hg.resolve_left hj).2
      rwa [fs_get A i hi,fs_get B j hj'] at this
     rw [List.drop_eq_getElem_cons hj']
     rw [mrg,if_neg (by omega)]
     rfl
   ·rw [show A.take (i+1)=A.take i++[A[i]] from (List.take_append_getElem hi).symm]
    refine (h3.append_right _).trans ?_
    rw [List.append_assoc,List.append_assoc]
    exact List.Perm.append_left _ List.perm_append_comm
   ·rw [List.range_succ,List.map_append,← h4]
    have e:fs (P++[A[i]])=fs P++[(A[i]).1]:=by simp [fs]
    rw [e,List.map_cons,List.map_nil,hit,fs_get A i hi]
  ·rw [if_neg hg]
   rw [if_neg hg] at hit
   rw [goes_iff,fs_length,fs_length] at hg
   have hj:j<B.length:=by omega
   simp only
   refine ⟨P++[B[j]],?_,by simp [h2],?_,?_⟩
   ·rw [h1,List.append_assoc]
    congr 1
    rw [List.drop_eq_getElem_cons hj]
    by_cases hi:i=A.length
    ·rw [hi,List.drop_length,mrg_nil_left,mrg_nil_left];rfl
    ·have hi':i<A.length:=by omega
     have hlt:(B[j]).1<(A[i]).1:=by
      refine Nat.lt_of_not_le fun hc=>hg (.inr ⟨hi',?_⟩)
      rw [fs_get A i hi',fs_get B j hj]
      exact hc
     rw [List.drop_eq_getElem_cons hi']
     rw [mrg,if_pos hlt]
     rfl
   ·rw [show B.take (j+1)=B.take j++[B[j]] from (List.take_append_getElem hj).symm]
    refine (h3.append_right _).trans ?_
    rw [List.append_assoc]
   ·rw [List.range_succ,List.map_append,← h4]
    have e:fs (P++[B[j]])=fs P++[(B[j]).1]:=by simp [fs]
    rw [e,List.map_cons,List.map_nil,hit,fs_get B j hj]
theorem mrg_fs (A B:List Coin):fs (mrg A B)=mgd (fs A) (fs B):=by
 obtain ⟨P,h1,h2,h3,h4⟩:=mrg_step A B (A.length+B.length) (Nat.le_refl _)
 have hl:=congrArg List.length h1
 rw [mrg_length,List.length_append,h2] at hl
 have h0:mrg (A.drop (st (fs A) (fs B) (A.length+B.length)).1) (B.drop (st (fs A) (fs B) (A.length+B.length)).2)=[]:=List.length_eq_zero_iff.1 (by omega)
 rw [h1,h0,List.append_nil,h4]
 unfold mgd
 rw [fs_length,fs_length]
theorem mrg_take_st (A B:List Coin) (m:Nat) (h:m≤A.length+B.length):((mrg A B).take m).Perm (A.take (st (fs A) (fs B) m).1++B.take (st (fs A) (fs B) m).2):=by
 obtain ⟨P,h1,h2,h3,h4⟩:=mrg_step A B m h
 rw [h1,List.take_append_of_le_length (by omega),List.take_of_length_le (by omega)]
 exact h3
def packW (zs:List Nat):List Nat:=(List.range (zs.length / 2)).map fun i=>zs.getD (2*i) 0+zs.getD (2*i+1) 0
theorem packW_length (zs:List Nat):(packW zs).length=zs.length / 2:=by simp [packW]
theorem pack_fs:∀ l:List Coin,fs (pack l)=packW (fs l)
 | []=>rfl
 | [x]=>by simp [pack,packW,fs]
 | a :: b :: r=>by
  rw [pack]
  show (a.1+b.1) :: fs (pack r)=_
  rw [pack_fs r]
  unfold packW
  rw [show (fs (a :: b :: r)).length / 2=(fs r).length / 2+1 by simp [fs];omega,List.range_succ_eq_map,List.map_cons,List.map_map]
  congr 1
def bk (wl:List Nat):Nat→List Nat
 | 0=>[]
 | k+1=>packW (mgd wl (bk wl k))
def wr (wl:List Nat) (k:Nat):List Nat:=mgd wl (bk wl k)
def coins (base:List Coin):Nat→List Coin
 | 0=>[]
 | k+1=>pack (rounds base k)
theorem rounds_mrg (base:List Coin) (k:Nat):rounds base k=mrg base (coins base k):=by
 cases k with
 | zero=>exact (mrg_nil_right base).symm
 | succ k=>rfl
theorem bk_fs (base:List Coin):∀ k,fs (coins base k)=bk (fs base) k∧fs (rounds base k)=wr (fs base) k
 | 0=>⟨rfl,by rw [rounds_mrg,mrg_fs];rfl⟩
 | k+1=>by
  have h:=bk_fs base k
  have h1:fs (coins base (k+1))=bk (fs base) (k+1):=by
   show fs (pack (rounds base k))=packW (mgd (fs base) (bk (fs base) k))
   rw [pack_fs,h.2]
   rfl
  exact ⟨h1,by rw [rounds_mrg,mrg_fs,h1];rfl⟩
theorem wr_length (wl:List Nat) (k:Nat):(wr wl k).length=wl.length+(bk wl k).length:=mgd_length _ _
theorem bk_length (wl:List Nat):∀ k,(bk wl k).length≤wl.length
 | 0=>by simp [bk]
 | k+1=>by
  have:=bk_length wl k
  show (packW (mgd wl (bk wl k))).length≤_
  rw [packW_length,mgd_length]
  omega
theorem bk_succ_length (wl:List Nat) (k:Nat):(bk wl (k+1)).length=(wr wl k).length / 2:=packW_length _
/-! ### What is taken -/
def alone (wl:List Nat) (k t:Nat):Nat:=(st wl (bk wl k) t).1
theorem alone_le (wl:List Nat) (k t:Nat) (h:t≤(wr wl k).length):alone wl k t≤wl.length∧alone wl k t≤t∧t - alone wl k t≤(bk wl k).length:=by
 have:=st_ok wl (bk wl k) t (by rw [← wr_length];exact h)
 unfold alone
 omega
theorem alone_next (wl:List Nat) (k t:Nat) (h:t≤(wr wl (k+1)).length):2*(t - alone wl (k+1) t)≤(wr wl k).length:=by
 have:=(alone_le wl (k+1) t h).2.2
 rw [bk_succ_length] at this
 omega
def cnt (order wl:List Nat):Nat→Nat→Nat→Nat
 | 0,t,i=>(order.take (alone wl 0 t)).count i
 | k+1,t,i=>(order.take (alone wl (k+1) t)).count i+cnt order wl k (2*(t - alone wl (k+1) t)) i
theorem syms_perm {a b:List Coin} (h:a.Perm b):(syms a).Perm (syms b):=List.Perm.flatMap_right _ h
theorem cnt_ok (w:Nat→Nat) (order:List Nat) (i:Nat):∀ k t,t≤(wr (fs (baseOf w order)) k).length→cnt order (fs (baseOf w order)) k t i=(syms ((rounds (baseOf w order) k).take t)).count i
 | 0,t,h=>by
  have h2:=mrg_take_st (baseOf w order) [] t (by rw [wr_length,fs_length] at h;exact h)
  rw [rounds_mrg]
  show _=(syms ((mrg (baseOf w order) []).take t)).count i
  rw [(syms_perm h2).count_eq]
  simp only [List.take_nil,List.append_nil,base_take,base_syms]
  rfl
 | k+1,t,h=>by
  have hl:(bk (fs (baseOf w order)) (k+1)).length=(coins (baseOf w order) (k+1)).length:=by rw [← (bk_fs (baseOf w order) (k+1)).1,fs_length]
  have h2:=mrg_take_st (baseOf w order) (coins (baseOf w order) (k+1)) t (by rw [wr_length,fs_length,hl] at h;exact h)
  have hst:=st_ok (fs (baseOf w order)) (bk (fs (baseOf w order)) (k+1)) t (by rw [← wr_length];exact h)
  rw [(bk_fs (baseOf w order) (k+1)).1] at h2
  rw [rounds_mrg,(syms_perm h2).count_eq,syms_append,List.count_append,base_take,base_syms]
  have hb:2*(st (fs (baseOf w order)) (bk (fs (baseOf w order)) (k+1)) t).2≤(rounds (baseOf w order) k).length:=by
   have h3:=hst.2.2
   rw [bk_succ_length,← (bk_fs (baseOf w order) k).2,fs_length] at h3
   omega
  show (order.take (alone _ (k+1) t)).count i+cnt order _ k (2*(t - alone _ (k+1) t)) i=_+(syms ((pack (rounds (baseOf w order) k)).take _)).count i
  rw [pack_syms _ _ hb,cnt_ok w order i k _ (alone_next _ k t h)]
  have e:t - alone (fs (baseOf w order)) (k+1) t=(st (fs (baseOf w order)) (bk (fs (baseOf w order)) (k+1)) t).2:=by unfold alone;omega
  rw [e]
  rfl
/-! ### What coins may be worth -/
theorem worth_perm {a b:List Coin} (h:a.Perm b):worth a=worth b:=(h.map Prod.fst).sum_nat
theorem worth_pack:∀ l:List Coin,worth (pack l)≤worth l
 | []=>by simp [pack,worth]
 | [_]=>by simp [pack,worth]
 | a :: b :: r=>by
  have:=worth_pack r
  rw [pack,worth_cons,worth_cons,worth_cons]
  simp only
  omega
theorem worth_mrg (A B:List Coin):worth (mrg A B)=worth A+worth B:=by
 have h:=mrg_take_st A B (A.length+B.length) (Nat.le_refl _)
 have hst:=st_ok (fs A) (fs B) (A.length+B.length) (by rw [fs_length,fs_length];omega)
 rw [fs_length,fs_length] at hst
 rw [List.take_of_length_le (by rw [mrg_length];omega),List.take_of_length_le (by omega),List.take_of_length_le (by omega)] at h
 rw [worth_perm h,worth_append]
theorem worth_rounds (base:List Coin):∀ k,worth (rounds base k)≤(k+1)*worth base
 | 0=>by simp [rounds]
 | k+1=>by
  have h1:=worth_rounds base k
  have h2:=worth_pack (rounds base k)
  rw [rounds,worth_mrg,show (k+1+1)*worth base=(k+1)*worth base+worth base by rw [Nat.add_mul,Nat.one_mul]]
  omega
theorem mem_le_sum:∀ {l:List Nat} {x:Nat},x∈l→x≤l.sum
 | y :: r,x,h=>by
  rw [List.sum_cons]
  rcases List.mem_cons.1 h with rfl | h
  ·omega
  ·have:=mem_le_sum h;omega
theorem wr_le (base:List Coin) (k:Nat):∀ x∈wr (fs base) k,x≤(k+1)*worth base:=fun x hx=>by
 rw [← (bk_fs base k).2] at hx
 exact Nat.le_trans (mem_le_sum hx) (worth_rounds base k)
end Merge
namespace L5
open Go.RowKit
theorem own_reads {w:World} {base n:Nat} {v:Value} {zs:List Int} (h:w.ownsRow base 3 1 v n (zs.map iv)) (hn:n=zs.length):ReadsI w v zs:=by
 subst hn
 rcases h.2 with ⟨e,e'⟩ | ⟨g,cap,cur,e,_,hh,_,_,_,ht⟩
 ·exact ⟨none,0,by rw [e,e'],fun h0=>by omega⟩
 ·refine ⟨_,cap,e,fun h0=>⟨g,0,rfl,fun j hj=>?_⟩⟩
  have h2:(cur.toList.take (zs.length*1))[j]?=some (iv zs[j]):=by rw [ht];simp [hj]
  rw [List.getElem?_take,if_pos (by omega)] at h2
  simp only [World.cell?,hh,Nat.zero_add]
  simpa [iv,hj] using h2
end L5
namespace L5
open Go.RowKit
section
variable {P:Program} {md:Region.Mode} {ops:Array Oper} {Q:Exit→Act→World→Prop} {S S':World→Prop}
theorem held_take {oi:Oper} {v:Value} {fuel:Nat} {listed:Array Bool} {l:List Value} {df:List Deferred} {w:World} (i d:Nat) (hi:ops[i]?=some oi) (hd:oi.dst=some d)
  (hs:Region.noSelect ops=true) (hf:Region.free md ops listed i=true) (hr:(Region.ready md ops listed).contains i=true)
  (hw:Region.wanted oi (yielded ops l.toArray)=true) (hS:S w) (hQ:∀ c a w,¬ Q (.panic c) a w)
  (hy:∀ x,S x→(execOp (Act.eval ⟨l.toArray,df⟩) oi).run P x=.ok (.value v) x)
  (h:wpAnyH P md ops Q S fuel (listed.setIfInBounds i true) ⟨(l.set d v).toArray,df⟩ w):wpAnyH P md ops Q S (fuel+1) listed ⟨l.toArray,df⟩ w:=by
 refine wpAnyH_take (i:=i) (v:=v) hi hs hf hr (fun c a w h=>absurd h (hQ _ _ _)) (Or.inl ⟨hw,hy⟩) hS ?_
 have e:Act.put (⟨l.toArray,df⟩:Act) oi.dst v=⟨(l.set d v).toArray,df⟩:=by rw [hd];simp [Act.put]
 rw [e]
 exact h
theorem hT {oi:Oper} {v:Value} {fuel:Nat} {listed:Array Bool} {l:List Value} {df:List Deferred} {w:World} (i d:Nat) (hi:ops[i]?=some oi) (hd:oi.dst=some d) (hS:S w) (hQ:∀ c a w,¬ Q (.panic c) a w) (hy:∀ x,S x→(execOp (Act.eval ⟨l.toArray,df⟩) oi).run P x=.ok (.value v) x) (h:wpAnyH P md ops Q S fuel (listed.setIfInBounds i true) ⟨(l.set d v).toArray,df⟩ w) (hs:Region.noSelect ops=true:=by kernel_rfl) (hf:Region.free md ops listed i=true:=by kernel_rfl) (hr:(Region.ready md ops listed).contains i=true:=by kernel_rfl) (hw:Region.wanted oi (yielded ops l.toArray)=true:=by rfl):wpAnyH P md ops Q S (fuel+1) listed ⟨l.toArray,df⟩ w:=held_take i d hi hd hs hf hr hw hS hQ hy h
theorem held_enter {o:Oper} {f:FuncId} {args:Array Value} {fuel:Nat} {listed:Array Bool} {l:List Value} {df:List Deferred} {w:World} (i d:Nat) (hr:Region.ready md ops listed=[i]) (hi:ops[i]?=some o) (hd:o.dst=some d)
  (hw:Region.wanted o (yielded ops l.toArray)=true) (hrun:(execOp (Act.eval ⟨l.toArray,df⟩) o).run P w=.ok (.enter f args) w)
  (h:Calls P f args w fun e w'=>∃ v,e=.returned v∧S w'∧wpAnyH P md ops Q S fuel (listed.setIfInBounds i true) ⟨(l.set d v).toArray,df⟩ w'):wpAnyH P md ops Q S (fuel+1) listed ⟨l.toArray,df⟩ w:=by
 refine wpAnyH_ready hr (by simp) (AllReadyH.cons hi (fun K hK=>?_) AllReadyH.nil)
 rw [if_pos hw]
 unfold Oper.wp
 rw [hrun,Oper.upon_enter]
 refine h.mono ?_
 rintro e w' ⟨v,rfl,hS,h2⟩
 have e:Act.put (⟨l.toArray,df⟩:Act) o.dst v=⟨(l.set d v).toArray,df⟩:=by rw [hd];simp [Act.put]
 show K (Act.put ⟨l.toArray,df⟩ o.dst v) w'
 rw [e]
 exact hK.out _ _ hS (fun _=>h2)
end
theorem wp_tail {P:Program} {id:Nat} {Q:Exit→Act→World→Prop} {a:Act} {w:World} {l:List Oper} (n:Nat) (hm:P.follows .mixedOrders=true) (hB:Region.lexTailB .any l.toArray n=true)
  (h:wpStill P l.toArray w.drew (fun a'=>wpList P l.toArray Q (l.drop n) a' w.drew) (l.take n) a):(Code.region id l.toArray true).wp P Q a w:=wp_region_still_tail n hm hB h
theorem nPp {Q:Exit→Act→World→Prop} (c:List PanicEntry) (a:Act) (w:World):¬ NoPanic Q (.panic c) a w:=fun h=>h
end L5
namespace L5
open Go.RowKit
attribute [local go_sem ↓] wp_at_zero wp_at_succ
def ints (l:List Nat):List Int:=l.map (fun (n:Nat)=>(n:Int))
theorem ints_length (l:List Nat):(ints l).length=l.length:=by simp [ints]
theorem ints_get (l:List Nat) (i:Nat) (h:i<l.length):(ints l).getD i 0=(l.getD i 0:Nat):=by simp [ints,h]
theorem IntsAt.reads {w:World} {g n:Nat} {C:Nat→Nat} (h:IntsAt w .i64 3 g n C) {l:List Nat} (hn:l.length=n) (hc:∀ i,i<n→C i=l.getD i 0):ReadsI w (.slice (some ⟨g,0,none⟩) n n) (ints l):=by
 subst hn
 refine ⟨_,l.length,by rw [ints_length],fun _=>⟨g,0,rfl,fun j hj=>?_⟩⟩
 rw [ints_length] at hj
 rw [Nat.zero_add,h.cell j hj,hc j hj,ints_get l j hj]
theorem pack_ok (zs:List Nat) (v:Value) (w:World) (hr:ReadsI w v (ints zs)) (hl:zs.length≤131072) (hb:∀ x∈zs,x≤1152921504606846976) :
  Calls Tryz.prog 173 #[v] w fun e w'=>∃ v',e=.returned v'∧ReadsI w' v' (ints (Merge.packW zs))∧Below w.heap.size w w':=by
 obtain ⟨a,cap,rfl,hsp⟩:=hr
 rw [ints_length] at hsp ⊢
 have hgb:∀ i,zs.getD i 0≤1152921504606846976:=fun i=>by
  by_cases h:i<zs.length
  ·rw [List.getD_eq_getElem?_getD,List.getElem?_eq_getElem h];exact hb _ (List.getElem_mem h)
  ·rw [List.getD_eq_getElem?_getD,List.getElem?_eq_none (by omega)];simp
 have HSP:Hid (0<zs.length→∃ b off,a=some ⟨b,off,none⟩∧∀ j,j<zs.length→w.cell? ⟨b,off+j,none⟩=some (.int .i64 (zs.getD j 0:Nat))):=qz fun h0=>by
  obtain ⟨b,off,h1,h2⟩:=hsp h0
  exact ⟨b,off,h1,fun j hj=>by rw [h2 j hj,ints_get zs j hj]⟩
 have HGB:=qz hgb
 clear hsp hgb hb
 obtain ⟨m,hm⟩:∃ m,m=zs.length:=⟨_,rfl⟩
 rw [← hm] at HSP hl ⊢
 have HM:=qz hm
 clear hm
 obtain ⟨n,hn⟩:∃ n,n=m / 2:=⟨_,rfl⟩
 have hn1:2*n≤m:=by omega
 have hn2:n≤65536:=by omega
 have hdiv:Int.tdiv (m:Int) 2=(n:Int):=by rw [hn];rfl
 have HN:=qz hn
 clear hn
 have hmk:=ints_made w n hn2
 have hz:IntsAt (w.alloc (.cells (icells .i64 n fun _=>0) 3)) .i64 3 w.heap.size n (fun _=>0):=heap_alloc_new _ _
 have hb0:Below w.heap.size w (w.alloc (.cells (icells .i64 n fun _=>0) 3)):=(Below.refl _ _).alloc (Nat.le_refl _) _
 obtain ⟨W1,hW1⟩:∃ W1,W1=w.alloc (.cells (icells .i64 n fun _=>0) 3):=⟨_,rfl⟩
 rw [← hW1] at hmk hz hb0
 obtain ⟨g,hg⟩:∃ g,g=w.heap.size:=⟨_,rfl⟩
 rw [← hg] at hmk hz
 have HG:=qz hg
 have HZ:=qz hz
 have HB0:=qz hb0
 clear hW1 hz hb0 hg
 go_enter Tryz.func173,Tryz.ntmps173
 go_wp2_with fail
 go_loopg [11] n (fun gk d ws=>∃ (k:Nat) (C:Nat→Nat),gk=n - k∧k≤n∧d=.int .i64 (k:Int)∧IntsAt ws .i64 3 g n C∧(∀ i,i<k→C i=zs.getD (2*i) 0+zs.getD (2*i+1) 0)∧Below w.heap.size w ws)
 case atStart=>exact ⟨0,_,by omega,by omega,rfl,uh HZ,fun i h=>by omega,uh HB0⟩
 case round =>
  obtain ⟨k,C,rfl,hk,rfl,hat,hC,hbel⟩:=hrel
  clear hmk HZ HB0
  by_cases hlt:k<n
  ·obtain ⟨b,off,rfl,hcell⟩:=uh HSP (by omega)
   obtain ⟨q,hq⟩:∃ q:Nat,q=2*k:=⟨_,rfl⟩
   obtain ⟨p,hp⟩:∃ p:Nat,p=q+1:=⟨_,rfl⟩
   have k1:=cell_stays hbel (hcell q (by omega))
   have k2:=cell_stays hbel (hcell p (by omega))
   have b1:=uh HGB q
   have b2:=uh HGB p
   have k3:=hat.cell k hlt
   have k4:=hat.free k
   have HAT:=qz (hat.set k (zs.getD q 0+zs.getD p 0))
   have HC:Hid (∀ i,i<k+1→upd C k (zs.getD q 0+zs.getD p 0) i=zs.getD (2*i) 0+zs.getD (2*i+1) 0):=qz fun i hi=>by
    unfold upd
    by_cases e:i=k
    ·rw [if_pos e,e,hp,hq]
    ·rw [if_neg e];exact hC i (by omega)
   have HBEL:Hid (∀ x:Value,Below w.heap.size w (wr.drew.setCell ⟨g,k,none⟩ x)):=qz fun x=>hbel.trans (((Below.refl _ _).drew).setCell (by show w.heap.size≤g;exact Nat.le_of_eq (uh HG).symm) x)
   have hqi:2*(k:Int)=(q:Int):=by omega
   have hki:(k:Int)<(n:Int):=by omega
   have hqm:(q:Int)<(m:Int):=by omega
   have hqm1:(p:Int)<(m:Int):=by omega
   have hqp:(q:Int)+1=(p:Int):=by omega
   obtain ⟨x,hx⟩:∃ x,x=zs.getD q 0:=⟨_,rfl⟩
   obtain ⟨y,hy⟩:∃ y,y=zs.getD p 0:=⟨_,rfl⟩
   rw [← hx] at k1 b1 HAT HC
   rw [← hy] at k2 b2 HAT HC
   have hw1:IntKind.i64.wrap (q:Int)=(q:Int):=IntWalk.i64_in _ (by omega)
   have hw2:IntKind.i64.wrap (p:Int)=(p:Int):=IntWalk.i64_in _ (by omega)
   have hw3:IntKind.i64.wrap ((x:Int)+(y:Int))=(x:Int)+(y:Int):=IntWalk.i64_in _ (by omega)
   clear hcell hat hC hbel hq hp hx hy
   go_wp2_with fail
   refine wp_tail 15 (by kernel_rfl) (by kernel_rfl) ?_
   simp only [List.take_succ_cons,List.take_zero,List.drop_succ_cons,List.drop_zero]
   repeat still_step
   try refine wpStill_nil ?_
   go_wp2_with fail
   go_roundg (n - (k+1))
   case measure=>omega
   case rel=>exact ⟨k+1,_,rfl,by omega,by go_num,uh HAT,uh HC,uh HBEL _⟩
  ·obtain rfl:k=n:=by omega
   have HR:Hid (ReadsI wr (.slice (some ⟨g,0,none⟩) k k) (ints (Merge.packW zs))):=qz (hat.reads (by rw [Merge.packW_length,uh HN,uh HM]) (fun i hi=>by
    rw [hC i hi]
    unfold Merge.packW
    rw [show ∀ (u:List Nat),u.getD i 0=u[i]?.getD 0 from fun u=>List.getD_eq_getElem?_getD,List.getElem?_map,List.getElem?_range (by rw [← uh HM,← uh HN];exact hi)]
    rfl))
   have HB:=qz hbel
   clear hat hC hbel
   go_wp2_with fail
   go_ret
   exact ⟨_,rfl,uh HR,uh HB⟩
end L5
namespace L5
open Go.RowKit
section
variable {P:Program} {md:Region.Mode} {ops:Array Oper} {Q:Exit→Act→World→Prop} {S:World→Prop}
theorem held_go {o:Oper} {v:Value} {fuel:Nat} {listed:Array Bool} {l:List Value} {df:List Deferred} {w w':World} {K:Act→World→Prop} (i d:Nat)
  (hK:Shut (∀ a w,S w→(S w→wpAnyH P md ops Q S fuel (listed.setIfInBounds i true) a w)→K a w)) (hd:o.dst=some d)
  (hw:Region.wanted o (yielded ops l.toArray)=true) (hrun:(execOp (Act.eval ⟨l.toArray,df⟩) o).run P w=.ok (.value v) w') (hS:S w')
  (h:wpAnyH P md ops Q S fuel (listed.setIfInBounds i true) ⟨(l.set d v).toArray,df⟩ w') :
  if Region.wanted o (yielded ops (⟨l.toArray,df⟩:Act).tmps)=true then Oper.wp P o ⟨l.toArray,df⟩ w K Q else K ((⟨l.toArray,df⟩:Act).put o.dst undef) w:=by
 rw [if_pos hw]
 unfold Oper.wp
 rw [hrun,Oper.upon_value]
 have e:Act.put (⟨l.toArray,df⟩:Act) o.dst v=⟨(l.set d v).toArray,df⟩:=by rw [hd];simp [Act.put]
 rw [e]
 exact hK.out _ _ hS (fun _=>h)
theorem held_two {fuel:Nat} {listed:Array Bool} {a:Act} {w:World} {i j:Nat} {o1 o2:Oper} (hr:Region.ready md ops listed=[i,j]) (h1:ops[i]?=some o1) (h2:ops[j]?=some o2)
  (k1:∀ K:Act→World→Prop,Shut (∀ a w,S w→(S w→wpAnyH P md ops Q S fuel (listed.setIfInBounds i true) a w)→K a w)→if Region.wanted o1 (yielded ops a.tmps)=true then Oper.wp P o1 a w K Q else K (a.put o1.dst undef) w)
  (k2:∀ K:Act→World→Prop,Shut (∀ a w,S w→(S w→wpAnyH P md ops Q S fuel (listed.setIfInBounds j true) a w)→K a w)→if Region.wanted o2 (yielded ops a.tmps)=true then Oper.wp P o2 a w K Q else K (a.put o2.dst undef) w) :
  wpAnyH P md ops Q S (fuel+1) listed a w:=wpAnyH_ready hr (by simp) (AllReadyH.cons h1 k1 (AllReadyH.cons h2 k2 AllReadyH.nil))
theorem held_three {fuel:Nat} {listed:Array Bool} {a:Act} {w:World} {i j k:Nat} {o1 o2 o3:Oper} (hr:Region.ready md ops listed=[i,j,k]) (h1:ops[i]?=some o1) (h2:ops[j]?=some o2) (h3:ops[k]?=some o3)
  (k1:∀ K:Act→World→Prop,Shut (∀ a w,S w→(S w→wpAnyH P md ops Q S fuel (listed.setIfInBounds i true) a w)→K a w)→if Region.wanted o1 (yielded ops a.tmps)=true then Oper.wp P o1 a w K Q else K (a.put o1.dst undef) w)
  (k2:∀ K:Act→World→Prop,Shut (∀ a w,S w→(S w→wpAnyH P md ops Q S fuel (listed.setIfInBounds j true) a w)→K a w)→if Region.wanted o2 (yielded ops a.tmps)=true then Oper.wp P o2 a w K Q else K (a.put o2.dst undef) w)
  (k3:∀ K:Act→World→Prop,Shut (∀ a w,S w→(S w→wpAnyH P md ops Q S fuel (listed.setIfInBounds k true) a w)→K a w)→if Region.wanted o3 (yielded ops a.tmps)=true then Oper.wp P o3 a w K Q else K (a.put o3.dst undef) w) :
  wpAnyH P md ops Q S (fuel+1) listed a w:=wpAnyH_ready hr (by simp) (AllReadyH.cons h1 k1 (AllReadyH.cons h2 k2 (AllReadyH.cons h3 k3 AllReadyH.nil)))
theorem held_one {o:Oper} {v:Value} {fuel:Nat} {listed:Array Bool} {l:List Value} {df:List Deferred} {w w':World} (i d:Nat) (hr:Region.ready md ops listed=[i]) (hi:ops[i]?=some o) (hd:o.dst=some d)
  (hw:Region.wanted o (yielded ops l.toArray)=true) (hrun:(execOp (Act.eval ⟨l.toArray,df⟩) o).run P w=.ok (.value v) w') (hS:S w')
  (h:wpAnyH P md ops Q S fuel (listed.setIfInBounds i true) ⟨(l.set d v).toArray,df⟩ w'):wpAnyH P md ops Q S (fuel+1) listed ⟨l.toArray,df⟩ w :=
 wpAnyH_ready hr (by simp) (AllReadyH.cons hi (fun K hK=>held_go i d hK hd hw hrun hS h) AllReadyH.nil)
theorem held_skip {o:Oper} {fuel:Nat} {listed:Array Bool} {a:Act} {w w':World} (i:Nat) (hr:Region.ready md ops listed=[i]) (hi:ops[i]?=some o) (hd:o.dst=none)
  (hw:Region.wanted o (yielded ops a.tmps)=true) (hrun:(execOp (Act.eval a) o).run P w=.ok .skip w') (hS:S w')
  (h:wpAnyH P md ops Q S fuel (listed.setIfInBounds i true) a w'):wpAnyH P md ops Q S (fuel+1) listed a w:=by
 refine wpAnyH_ready hr (by simp) (AllReadyH.cons hi (fun K hK=>?_) AllReadyH.nil)
 rw [if_pos hw]
 unfold Oper.wp
 rw [hrun,Oper.upon_skip]
 have e:Act.put a o.dst undef=a:=by rw [hd];rfl
 rw [e]
 exact hK.out _ _ hS (fun _=>h)
theorem held_append {o:Oper} {fuel:Nat} {listed:Array Bool} {l:List Value} {df:List Deferred} {w:World} (i d:Nat) (s x:Operand) (hr:Region.ready md ops listed=[i]) (hi:ops[i]?=some o) (hd:o.dst=some d)
  (hw:Region.wanted o (yielded ops l.toArray)=true) (ho:o.op=.call { callee:=.builtin .append,args:=#[s,x],argTypes:=#[45,45] }) (hP:P=Tryz.prog)
  (base:Nat) (v:Value) (n:Nat) (xs:List Value) (hs:Act.eval ⟨l.toArray,df⟩ s=v) (hown:w.ownsRow base 3 1 v n xs) (ad:Addr) (z:Int) (hx:Act.eval ⟨l.toArray,df⟩ x=.slice (some ad) 1 1)
  (hnew:w.cell? ad=some (.int .i64 z)) (hb:n+1≤1000000000) (hbase:base≤w.heap.size) (H:Nat) (hH:w.heap.size=H) (hS:∀ w',w.grownBy w' v.ownBlock→S w')
  (h:∀ g cap w',w'.ownsRow base 3 1 (.slice (some ⟨g,0,none⟩) (n+1) cap) (n+1) (xs++[iv z])→w.grownBy w' v.ownBlock→(v.ownBlock=some g∨g=H)→g<w'.heap.size →
   wpAnyH P md ops Q S fuel (listed.setIfInBounds i true) ⟨(l.set d (.slice (some ⟨g,0,none⟩) (n+1) cap)).toArray,df⟩ w'):wpAnyH P md ops Q S (fuel+1) listed ⟨l.toArray,df⟩ w:=by
 subst hP
 obtain ⟨i0,hii,hz0,hz1,hz2⟩:=info_parts info3'
 refine wpAnyH_ready hr (by simp) (AllReadyH.cons hi (fun K hK=>?_) AllReadyH.nil)
 rw [if_pos hw]
 refine wp_append_lies w s x 45 ho base 3 i0 _ 1 8 Tryz.underlying45 hii hz0 hz1 hz2 rfl (by decide) v n xs hs hown ad 1 1 [iv z] hx rfl (fun j u hj=>?_) (by intro u hu;simp at hu;subst hu;rfl) (by omega) (by unfold maxLen;omega) (by omega) hbase H hH (fun g cap w' h1 h2 h3 h4=>?_)
 ·match j,hj with
  | 0,hj=>simp [iv] at hj;subst hj;simpa [Addr.add] using hnew
 ·have e:Act.put (⟨l.toArray,df⟩:Act) o.dst (.slice (some ⟨g,0,none⟩) (n+1) cap)=⟨(l.set d (.slice (some ⟨g,0,none⟩) (n+1) cap)).toArray,df⟩:=by rw [hd];simp [Act.put]
  rw [e]
  exact hK.out _ _ (hS w' h2) (fun _=>h g cap w' h1 h2 h3 h4)
end
end L5
namespace L5
open Go.RowKit
def two:Array Value:=#[.slice none 0 0,.slice none 0 0]
structure MAt (A B:List Nat) (w ws:World) (bx:Nat) (vi va:Value) (mi ma:Nat):Prop where
 box:ws.heap[bx]?=some (.cells #[vi,va] 236 (0,0))
 res:ws.heap[w.heap.size]?=some (.cells two 236 (0,0))
 oi:ws.ownsRow (w.heap.size+1) 3 1 vi mi ((ints ((Merge.mgd A B).take mi)).map iv)
 oa:ws.ownsRow (w.heap.size+1) 3 1 va ma ((ints ((Merge.ahd A B).take ma)).map iv)
 d1:∀ g,vi.ownBlock=some g→va.ownBlock≠some g
 d2:vi.ownBlock≠some bx
 d3:va.ownBlock≠some bx
 lo:w.heap.size<bx
 bel:Below w.heap.size w ws
section
variable {A B:List Nat} {w ws w1:World} {bx:Nat} {vi va:Value} {mi ma:Nat}
theorem MAt.drew (h:MAt A B w ws bx vi va mi ma):MAt A B w ws.drew bx vi va mi ma:=⟨h.box,h.res,h.oi.drew,h.oa.drew,h.d1,h.d2,h.d3,h.lo,h.bel.trans (Below.refl _ _).drew⟩
theorem MAt.drewN (h:MAt A B w ws bx vi va mi ma) (q:Nat):MAt A B w (ws.drewN q) bx vi va mi ma:=⟨h.box,h.res,own_keep h.oi (fun _ _=>rfl),own_keep h.oa (fun _ _=>rfl),h.d1,h.d2,h.d3,h.lo,below_drewN h.bel q⟩
theorem MAt.c0 (h:MAt A B w ws bx vi va mi ma):ws.cell? ⟨bx,0,none⟩=some vi:=by simp [World.cell?,h.box]
theorem MAt.c1 (h:MAt A B w ws bx vi va mi ma):ws.cell? ⟨bx,1,none⟩=some va:=by simp [World.cell?,h.box]
theorem MAt.lt (h:MAt A B w ws bx vi va mi ma):bx<ws.heap.size:=heap_lt h.box
theorem take_snoc {l:List Nat} {n x:Nat} (h:l[n]?=some x):l.take (n+1)=l.take n++[x]:=by
 obtain ⟨h1,h2⟩:=List.getElem?_eq_some_iff.1 h
 rw [← h2]
 exact (List.take_append_getElem h1).symm
theorem MAt.app0 (h:MAt A B w ws bx vi va mi ma) {x g cap:Nat} (hx:(Merge.mgd A B)[mi]?=some x) (o:Obj)
  (hown:w1.ownsRow (w.heap.size+1) 3 1 (.slice (some ⟨g,0,none⟩) (mi+1) cap) (mi+1) ((ints ((Merge.mgd A B).take mi)).map iv++[iv (x:Int)])) (hg:(ws.alloc o).grownBy w1 vi.ownBlock) (hat:vi.ownBlock=some g∨g=ws.heap.size+1) :
  MAt A B w (w1.setCell ⟨bx,0,none⟩ (.slice (some ⟨g,0,none⟩) (mi+1) cap)) bx (.slice (some ⟨g,0,none⟩) (mi+1) cap) va (mi+1) ma:=by
 have hbx:=h.lt
 have hsz:=h.bel.size
 have hlo:=h.lo
 have kp:∀ k,k<ws.heap.size→vi.ownBlock≠some k→w1.heap[k]?=ws.heap[k]?:=fun k hk hne=>by
  rw [hg.block k (by simp;omega) (fun e=>hne e.symm),Below.heap_alloc _ _ _ hk]
 have hgb:g≠bx:=by
  rcases hat with e | e
  ·intro c;rw [c] at e;exact h.d2 e
  ·omega
 have hb1:w1.heap[bx]?=some (.cells #[vi,va] 236 (0,0)):=by rw [kp bx hbx h.d2];exact h.box
 have hva:∀ k,va.ownBlock=some k→w1.heap[k]?=ws.heap[k]?:=fun k e=>kp k (h.oa.lt k e).2 (fun c=>h.d1 k c e)
 refine ⟨?_,?_,?_,?_,?_,?_,h.d3,hlo,?_⟩
 ·rw [heap_setCell_same w1 bx 0 _ 236 _ hb1];rfl
 ·rw [heap_setCell_other _ _ _ _ (by show w.heap.size≠bx;omega),kp _ (by omega) (fun e=>by have:=(h.oi.lt _ e).1;omega)]
  exact h.res
 ·rw [take_snoc hx]
  have hown':w1.ownsRow (w.heap.size+1) 3 1 (.slice (some ⟨g,0,none⟩) (mi+1) cap) (mi+1) ((ints ((Merge.mgd A B).take mi++[x])).map iv):=by simpa [ints] using hown
  exact own_keep hown' (fun k e=>heap_setCell_other _ _ _ _ (by show k≠bx;injection e with e;rw [← e];exact hgb))
 ·refine own_keep h.oa (fun k e=>?_)
  rw [heap_setCell_other _ _ _ _ (by show k≠bx;intro c;rw [c] at e;exact h.d3 e)]
  exact hva k e
 ·intro k e c
  injection e with e
  subst e
  rcases hat with e | e
  ·exact h.d1 _ e c
  ·have:g<ws.heap.size:=(h.oa.lt _ c).2
   omega
 ·intro e;injection e with e;exact hgb e
 ·exact h.bel.trans ⟨hg.os,hg.tape,hg.output,by have:=hg.size;simp at this ⊢;omega,fun k hk=>by
   rw [heap_setCell_other _ _ _ _ (by show k≠bx;omega),kp k (by omega) (fun e=>by have:=(h.oi.lt _ e).1;omega)]⟩
theorem MAt.app1 (h:MAt A B w ws bx vi va mi ma) {x g cap:Nat} (hx:(Merge.ahd A B)[ma]?=some x) (o:Obj)
  (hown:w1.ownsRow (w.heap.size+1) 3 1 (.slice (some ⟨g,0,none⟩) (ma+1) cap) (ma+1) ((ints ((Merge.ahd A B).take ma)).map iv++[iv (x:Int)])) (hg:(ws.alloc o).grownBy w1 va.ownBlock) (hat:va.ownBlock=some g∨g=ws.heap.size+1) :
  MAt A B w (w1.setCell ⟨bx,1,none⟩ (.slice (some ⟨g,0,none⟩) (ma+1) cap)) bx vi (.slice (some ⟨g,0,none⟩) (ma+1) cap) mi (ma+1):=by
 have hbx:=h.lt
 have hsz:=h.bel.size
 have hlo:=h.lo
 have kp:∀ k,k<ws.heap.size→va.ownBlock≠some k→w1.heap[k]?=ws.heap[k]?:=fun k hk hne=>by
  rw [hg.block k (by simp;omega) (fun e=>hne e.symm),Below.heap_alloc _ _ _ hk]
 have hgb:g≠bx:=by
  rcases hat with e | e
  ·intro c;rw [c] at e;exact h.d3 e
  ·omega
 have hb1:w1.heap[bx]?=some (.cells #[vi,va] 236 (0,0)):=by rw [kp bx hbx h.d3];exact h.box
 have hvi:∀ k,vi.ownBlock=some k→w1.heap[k]?=ws.heap[k]?:=fun k e=>kp k (h.oi.lt k e).2 (fun c=>h.d1 k e c)
 refine ⟨?_,?_,?_,?_,?_,h.d2,?_,hlo,?_⟩
 ·rw [heap_setCell_same w1 bx 1 _ 236 _ hb1];rfl
 ·rw [heap_setCell_other _ _ _ _ (by show w.heap.size≠bx;omega),kp _ (by omega) (fun e=>by have:=(h.oa.lt _ e).1;omega)]
  exact h.res
 ·refine own_keep h.oi (fun k e=>?_)
  rw [heap_setCell_other _ _ _ _ (by show k≠bx;intro c;rw [c] at e;exact h.d2 e)]
  exact hvi k e
 ·rw [take_snoc hx]
  have hown':w1.ownsRow (w.heap.size+1) 3 1 (.slice (some ⟨g,0,none⟩) (ma+1) cap) (ma+1) ((ints ((Merge.ahd A B).take ma++[x])).map iv):=by simpa [ints] using hown
  exact own_keep hown' (fun k e=>heap_setCell_other _ _ _ _ (by show k≠bx;injection e with e;rw [← e];exact hgb))
 ·intro k e c
  injection c with c
  subst c
  rcases hat with c | c
  ·exact h.d1 _ e c
  ·have:g<ws.heap.size:=(h.oi.lt _ e).2
   omega
 ·intro e;injection e with e;exact hgb e
 ·exact h.bel.trans ⟨hg.os,hg.tape,hg.output,by have:=hg.size;simp at this ⊢;omega,fun k hk=>by
   rw [heap_setCell_other _ _ _ _ (by show k≠bx;omega),kp k (by omega) (fun e=>by have:=(h.oa.lt _ e).1;omega)]⟩
end
structure Got (w x:World) (room:Nat) (oi oa ob:Option Nat):Prop where
 res:x.heap[w.heap.size]?=some (.cells two 236 (0,0))
 bel:Below w.heap.size w x
 i:∀ g,oi=some g→w.heap.size<g∧x.heap[g]?=some (.cells (icells .i64 room fun _=>0) 3 (0,0))
 a:∀ g,oa=some g→w.heap.size<g∧x.heap[g]?=some (.cells (icells .i64 (room+1) fun _=>0) 3 (0,0))
 b:∀ g,ob=some g→w.heap.size<g∧x.heap[g]?=some (.cells two 236 (0,0))
 ia:∀ g,oi=some g→oa≠some g
 ib:∀ g,oi=some g→ob≠some g
 ab:∀ g,oa=some g→ob≠some g
section
variable {w x:World} {room:Nat} {oi oa ob:Option Nat}
theorem Got.start (w:World) (room:Nat):Got w (w.alloc (.cells two 236)).drew room none none none :=
 ⟨heap_alloc_new _ _,((Below.refl _ _).alloc (Nat.le_refl _) _).trans (Below.refl _ _).drew,fun g h=>(by cases h),fun g h=>(by cases h),fun g h=>(by cases h),fun g h=>(by cases h),fun g h=>(by cases h),fun g h=>(by cases h)⟩
theorem Got.size (h:Got w x room oi oa ob):w.heap.size<x.heap.size:=heap_lt h.res
theorem Got.keep (h:Got w x room oi oa ob) (o:Obj):Got w (x.alloc o) room oi oa ob :=
 ⟨by rw [Below.heap_alloc _ _ _ h.size];exact h.res,h.bel.trans ((Below.refl _ _).alloc h.bel.size _),fun g e=>⟨(h.i g e).1,by rw [Below.heap_alloc _ _ _ (heap_lt (h.i g e).2)];exact (h.i g e).2⟩,
  fun g e=>⟨(h.a g e).1,by rw [Below.heap_alloc _ _ _ (heap_lt (h.a g e).2)];exact (h.a g e).2⟩,fun g e=>⟨(h.b g e).1,by rw [Below.heap_alloc _ _ _ (heap_lt (h.b g e).2)];exact (h.b g e).2⟩,h.ia,h.ib,h.ab⟩
theorem Got.makeI (h:Got w x room none oa ob):Got w (x.alloc (.cells (icells .i64 room fun _=>0) 3)) room (some x.heap.size) oa ob :=
 have k:=h.keep (.cells (icells .i64 room fun _=>0) 3)
 ⟨k.res,k.bel,fun g e=>by injection e with e;subst e;exact ⟨h.size,heap_alloc_new _ _⟩,k.a,k.b,fun g e c=>by injection e with e;subst e;have:=heap_lt (h.a _ c).2;omega,fun g e c=>by injection e with e;subst e;have:=heap_lt (h.b _ c).2;omega,h.ab⟩
theorem Got.makeA (h:Got w x room oi none ob):Got w (x.alloc (.cells (icells .i64 (room+1) fun _=>0) 3)) room oi (some x.heap.size) ob :=
 have k:=h.keep (.cells (icells .i64 (room+1) fun _=>0) 3)
 ⟨k.res,k.bel,k.i,fun g e=>by injection e with e;subst e;exact ⟨h.size,heap_alloc_new _ _⟩,k.b,fun g e c=>by injection c with c;subst c;have:=heap_lt (h.i _ e).2;omega,h.ib,fun g e c=>by injection e with e;subst e;have:=heap_lt (h.b _ c).2;omega⟩
theorem Got.makeB (h:Got w x room oi oa none):Got w (x.alloc (.cells two 236)) room oi oa (some x.heap.size) :=
 have k:=h.keep (.cells two 236)
 ⟨k.res,k.bel,k.i,k.a,fun g e=>by injection e with e;subst e;exact ⟨h.size,heap_alloc_new _ _⟩,h.ia,fun g e c=>by injection c with c;subst c;have:=heap_lt (h.i _ e).2;omega,fun g e c=>by injection c with c;subst c;have:=heap_lt (h.a _ e).2;omega⟩
theorem own_of_cells {x:World} {base g n room:Nat} {xs:List Value} (hb:base≤g) (h:x.heap[g]?=some (.cells (icells .i64 room fun _=>0) 3 (0,0))) (hn:n≤room) (hr:room≤maxLen) (hx:xs=List.replicate n (iv 0)):x.ownsRow base 3 1 (.slice (some ⟨g,0,none⟩) n room) n xs:=by
 subst hx
 refine ⟨by simp,.inr ⟨g,room,_,rfl,hb,h,hn,hr,by simp [icells],?_⟩⟩
 apply List.ext_getElem
 ·simp [icells];omega
 ·intro j h1 h2
  simp [icells,iv]
theorem Got.done {A B:List Nat} {gi ga bx:Nat} (h:Got w x room (some gi) (some ga) (some bx)) (hroom:room=A.length+B.length) (hs:room≤1000000) :
  MAt A B w ((x.setCell ⟨bx,0,none⟩ (.slice (some ⟨gi,0,none⟩) 0 room)).setCell ⟨bx,1,none⟩ (.slice (some ⟨ga,0,none⟩) 1 (room+1))) bx (.slice (some ⟨gi,0,none⟩) 0 room) (.slice (some ⟨ga,0,none⟩) 1 (room+1)) 0 1:=by
 obtain ⟨i1,i2⟩:=h.i gi rfl
 obtain ⟨a1,a2⟩:=h.a ga rfl
 obtain ⟨b1,b2⟩:=h.b bx rfl
 have nib:gi≠bx:=fun e=>h.ib gi rfl (by rw [e])
 have nab:ga≠bx:=fun e=>h.ab ga rfl (by rw [e])
 have nia:gi≠ga:=fun e=>h.ia gi rfl (by rw [e])
 have kp:∀ k v v',k≠bx→((x.setCell ⟨bx,0,none⟩ v).setCell ⟨bx,1,none⟩ v').heap[k]?=x.heap[k]?:=fun k v v' hk=>by
  rw [heap_setCell_other _ _ _ _ (by exact hk),heap_setCell_other _ _ _ _ (by exact hk)]
 refine ⟨?_,?_,?_,?_,?_,?_,?_,b1,?_⟩
 ·rw [heap_setCell_same _ bx 1 _ 236 _ (heap_setCell_same x bx 0 _ 236 _ b2)];rfl
 ·rw [kp _ _ _ (by omega)];exact h.res
 ·exact own_of_cells (by omega) (by rw [kp _ _ _ nib];exact i2) (by omega) (by unfold maxLen;omega) (by simp [ints])
 ·refine own_of_cells (by omega) (by rw [kp _ _ _ nab];exact a2) (by omega) (by unfold maxLen;omega) ?_
  have:(Merge.ahd A B).take 1=[0]:=by
   unfold Merge.ahd
   rw [show A.length+B.length+1=(A.length+B.length)+1 from rfl,List.range_succ_eq_map]
   rfl
  rw [this]
  rfl
 ·intro g e c;injection e with e;injection c with c;subst e;exact nia c.symm
 ·intro e;injection e with e;exact nib e
 ·intro e;injection e with e;exact nab e
 ·exact h.bel.trans (((Below.refl _ _).setCell (by show w.heap.size≤bx;omega) _).setCell (by show w.heap.size≤bx;omega) _)
end
theorem MAt.grownI {A B:List Nat} {w ws w1:World} {bx:Nat} {vi va:Value} {mi ma:Nat} (h:MAt A B w ws bx vi va mi ma) {o:Obj} (hg:(ws.alloc o).grownBy w1 vi.ownBlock):w1.cell? ⟨bx,0,none⟩=some vi∧w1.frozen? ⟨bx,0,none⟩=false∧Below w.heap.size w w1:=by
 have hbx:=h.lt
 have hsz:=h.bel.size
 have kp:∀ k,k<ws.heap.size→vi.ownBlock≠some k→w1.heap[k]?=ws.heap[k]?:=fun k hk hne=>by
  rw [hg.block k (by simp;omega) (fun e=>hne e.symm),Below.heap_alloc _ _ _ hk]
 have hb1:w1.heap[bx]?=some (.cells #[vi,va] 236 (0,0)):=by rw [kp bx hbx h.d2];exact h.box
 exact ⟨by simp [World.cell?,hb1],by simp [World.frozen?,hb1],h.bel.trans ⟨hg.os,hg.tape,hg.output,by have:=hg.size;simp at this;omega,fun k hk=>kp k (by omega) (fun e=>by have:=(h.oi.lt _ e).1;omega)⟩⟩
theorem MAt.grownA {A B:List Nat} {w ws w1:World} {bx:Nat} {vi va:Value} {mi ma:Nat} (h:MAt A B w ws bx vi va mi ma) {o:Obj} (hg:(ws.alloc o).grownBy w1 va.ownBlock):w1.cell? ⟨bx,1,none⟩=some va∧w1.frozen? ⟨bx,1,none⟩=false∧Below w.heap.size w w1:=by
 have hbx:=h.lt
 have hsz:=h.bel.size
 have kp:∀ k,k<ws.heap.size→va.ownBlock≠some k→w1.heap[k]?=ws.heap[k]?:=fun k hk hne=>by
  rw [hg.block k (by simp;omega) (fun e=>hne e.symm),Below.heap_alloc _ _ _ hk]
 have hb1:w1.heap[bx]?=some (.cells #[vi,va] 236 (0,0)):=by rw [kp bx hbx h.d3];exact h.box
 exact ⟨by simp [World.cell?,hb1],by simp [World.frozen?,hb1],h.bel.trans ⟨hg.os,hg.tape,hg.output,by have:=hg.size;simp at this;omega,fun k hk=>kp k (by omega) (fun e=>by have:=(h.oa.lt _ e).1;omega)⟩⟩
theorem new_int (w:World) (z:Int):(w.alloc (.cells #[.int .i64 z] 3)).cell? ⟨w.heap.size,0,none⟩=some (.int .i64 z):=by
 simp only [World.cell?,heap_alloc_new];rfl
theorem new_news (w:World) (z:Int):∀ (j:Nat) (u:Value),[iv z][j]?=some u→(w.alloc (.cells #[.int .i64 z] 3)).cell? ((⟨w.heap.size,0,none⟩:Addr).add j)=some u:=by
 intro j u hj
 match j,hj with
 | 0,hj=>simp [iv] at hj;subst hj;simp [Addr.add]
end L5
namespace L5
open Go.RowKit
attribute [local go_sem ↓] wp_at_zero wp_at_succ
theorem mk_i (w:World) (n:Nat) (hn:n≤1000000):(Instr.makeSlice 45 (.int .i64 0) (.int .i64 (n:Int))).run Tryz.prog w=.ok (.slice (some ⟨w.heap.size,0,none⟩) 0 n) (w.alloc (.cells (icells .i64 n (fun _=>0)) 3)):=by
 obtain ⟨i0,hi,hz0,hz1,hz2⟩:=info_parts info3'
 have:=run_make (P:=Tryz.prog) w 45 3 i0 (.int .i64 0) Tryz.underlying45 hi hz0 .i64 .i64 0 (n:Int) (by omega) (by omega) (by rw [hz2];omega) (by omega)
 rw [hz1] at this
 rw [this]
 congr 3
 apply Array.ext (by simp [madeCells,icells])
 intro k k1 k2
 simp only [icells,madeCells,List.getElem_toArray,List.getElem_map,Array.getElem_map,Array.getElem_range]
 simp [Value.cells,Nat.mod_one]
theorem mk_a (w:World) (n:Nat) (hn:n≤1000000):(Instr.makeSlice 45 (.int .i64 1) (.int .i64 ((n:Int)+1))).run Tryz.prog w=.ok (.slice (some ⟨w.heap.size,0,none⟩) 1 (n+1)) (w.alloc (.cells (icells .i64 (n+1) (fun _=>0)) 3)):=by
 obtain ⟨i0,hi,hz0,hz1,hz2⟩:=info_parts info3'
 have:=run_make (P:=Tryz.prog) w 45 3 i0 (.int .i64 0) Tryz.underlying45 hi hz0 .i64 .i64 1 ((n:Int)+1) (by omega) (by omega) (by rw [hz2];omega) (by omega)
 rw [hz1] at this
 rw [this]
 congr 3
 apply Array.ext (by simp [madeCells,icells])
 intro k k1 k2
 simp only [icells,madeCells,List.getElem_toArray,List.getElem_map,Array.getElem_map,Array.getElem_range]
 simp [Value.cells,Nat.mod_one]
theorem le_ok (a b:Int) (w:World):Calls Tryz.prog 172 #[.int .i64 a,.int .i64 b] w fun e w'=>e=.returned (.bool (decide (a≤b)))∧w'=w:=by
 go_enter Tryz.func172,Tryz.ntmps172
 go_wp2
 go_ret
 exact ⟨rfl,rfl⟩
theorem le_yes (a b:Int) (h:a≤b) (w:World):Calls Tryz.prog 172 #[.int .i64 a,.int .i64 b] w fun e w'=>e=.returned (.bool true)∧w'=w :=
 (le_ok a b w).mono fun e w' ⟨h1,h2⟩=>⟨by rw [h1,decide_eq_true h],h2⟩
theorem le_no (a b:Int) (h:¬ a≤b) (w:World):Calls Tryz.prog 172 #[.int .i64 a,.int .i64 b] w fun e w'=>e=.returned (.bool false)∧w'=w :=
 (le_ok a b w).mono fun e w' ⟨h1,h2⟩=>⟨by rw [h1,decide_eq_false h],h2⟩
theorem st_next (A B:List Nat) {p i j:Nat} (h:Merge.st A B p=(i,j)):Merge.st A B (p+1)=if Merge.goes A B (i,j)=true then (i+1,j) else (i,j+1):=by
 rw [Merge.st,h]
theorem item_at (A B:List Nat) {p i j:Nat} (h:Merge.st A B p=(i,j)) (hp:p<A.length+B.length):(Merge.mgd A B)[p]?=some (if Merge.goes A B (i,j)=true then A.getD i 0 else B.getD j 0):=by
 unfold Merge.mgd
 rw [List.getElem?_map,List.getElem?_range hp]
 show some (Merge.item A B p)=_
 unfold Merge.item
 rw [h]
theorem ahd_at (A B:List Nat) (p:Nat) (hp:p≤A.length+B.length):(Merge.ahd A B)[p]?=some (Merge.st A B p).1:=by
 unfold Merge.ahd
 rw [List.getElem?_map,List.getElem?_range (by omega)]
 rfl
def ReadsF (lo:Nat) (w:World) (v:Value) (zs:List Int):Prop :=
 ∃ a cap,v=.slice a zs.length cap∧(0<zs.length→∃ b off,a=some ⟨b,off,none⟩∧lo≤b∧∀ j,j<zs.length→w.cell? ⟨b,off+j,none⟩=some (.int .i64 (zs.getD j 0)))
theorem ReadsF.reads {lo:Nat} {w:World} {v:Value} {zs:List Int} (h:ReadsF lo w v zs):ReadsI w v zs:=by
 obtain ⟨a,cap,e,h⟩:=h
 exact ⟨a,cap,e,fun h0=>by obtain ⟨b,off,h1,_,h2⟩:=h h0;exact ⟨b,off,h1,h2⟩⟩
theorem own_readsF {w:World} {base n:Nat} {v:Value} {zs:List Int} (h:w.ownsRow base 3 1 v n (zs.map iv)) (hn:n=zs.length):ReadsF base w v zs:=by
 obtain ⟨a,cap,e,hs⟩:=own_reads h hn
 refine ⟨a,cap,e,fun h0=>?_⟩
 obtain ⟨b,off,rfl,h2⟩:=hs h0
 exact ⟨b,off,rfl,(h.lt b (by rw [e];rfl)).1,h2⟩
theorem MAt.finish {A B:List Nat} {w ws:World} {bx:Nat} {vi va:Value} {p:Nat} (h:MAt A B w ws bx vi va p (p+1)) (hp:p=A.length+B.length) :
  ReadsF (w.heap.size+1) ws vi (ints (Merge.mgd A B))∧ReadsF (w.heap.size+1) ws va (ints (Merge.ahd A B))∧w.heap.size<ws.heap.size∧vi.ownBlock≠some w.heap.size∧va.ownBlock≠some w.heap.size∧Below w.heap.size w ws:=by
 have h1:=h.oi
 rw [List.take_of_length_le (by rw [Merge.mgd_length];omega)] at h1
 have h2:=h.oa
 rw [List.take_of_length_le (by rw [Merge.ahd_length];omega)] at h2
 exact ⟨own_readsF h1 (by rw [ints_length,Merge.mgd_length];exact hp),own_readsF h2 (by rw [ints_length,Merge.ahd_length];omega),heap_lt h.res,fun e=>by have:=(h.oi.lt _ e).1;omega,fun e=>by have:=(h.oa.lt _ e).1;omega,h.bel⟩
theorem fin_after {w ws:World} {v1 v2:Value} {X Y:List Int} (h:ReadsF (w.heap.size+1) ws v1 X∧ReadsF (w.heap.size+1) ws v2 Y∧w.heap.size<ws.heap.size∧v1.ownBlock≠some w.heap.size∧v2.ownBlock≠some w.heap.size∧Below w.heap.size w ws) (hr:ws.heap[w.heap.size]?=some (.cells two 236 (0,0))) :
  ReadsF (w.heap.size+1) ((ws.setCell ⟨w.heap.size,0,none⟩ v1).setCell ⟨w.heap.size,1,none⟩ v2) v1 X∧ReadsF (w.heap.size+1) ((ws.setCell ⟨w.heap.size,0,none⟩ v1).setCell ⟨w.heap.size,1,none⟩ v2) v2 Y ∧
  ((ws.setCell ⟨w.heap.size,0,none⟩ v1).setCell ⟨w.heap.size,1,none⟩ v2).cell? ⟨w.heap.size,0,none⟩=some v1∧((ws.setCell ⟨w.heap.size,0,none⟩ v1).setCell ⟨w.heap.size,1,none⟩ v2).cell? ⟨w.heap.size,1,none⟩=some v2 ∧
  Below w.heap.size w ((ws.setCell ⟨w.heap.size,0,none⟩ v1).setCell ⟨w.heap.size,1,none⟩ v2):=by
 obtain ⟨h1,h2,h3,h4,h5,h6⟩:=h
 have hb:=heap_setCell_same _ w.heap.size 1 _ 236 v2 (heap_setCell_same ws w.heap.size 0 _ 236 v1 hr)
 have keep:∀ {v:Value} {Z:List Int},v.ownBlock≠some w.heap.size→ReadsF (w.heap.size+1) ws v Z→ReadsF (w.heap.size+1) ((ws.setCell ⟨w.heap.size,0,none⟩ v1).setCell ⟨w.heap.size,1,none⟩ v2) v Z:=by
  rintro v Z hv ⟨a,cap,rfl,hs⟩
  refine ⟨a,cap,rfl,fun h0=>?_⟩
  obtain ⟨b,off,rfl,hlo,hc⟩:=hs h0
  refine ⟨b,off,rfl,hlo,fun j hj=>?_⟩
  have hne:b≠w.heap.size:=fun e=>hv (by rw [e];rfl)
  rw [World.cell?_of_block (w:=ws) (by rw [heap_setCell_other _ _ _ _ (by exact hne),heap_setCell_other _ _ _ _ (by exact hne)])]
  exact hc j hj
 refine ⟨keep h4 h1,keep h5 h2,by simp [World.cell?,hb,two],by simp [World.cell?,hb,two],h6.trans (((Below.refl _ _).setCell (by exact Nat.le_refl _) _).setCell (by exact Nat.le_refl _) _)⟩
theorem merge_ok (A B:List Nat) (va vb:Value) (w:World) (hA:ReadsI w va (ints A)) (hB:ReadsI w vb (ints B)) (hl1:A.length≤65536) (hl2:B.length≤65536) :
  Calls Tryz.prog 171 #[va,vb,.func (.func 172) #[] #[]] w fun e w'=>∃ v1 v2,e=.returned (.agg #[v1,v2])∧ReadsF (w.heap.size+1) w' v1 (ints (Merge.mgd A B))∧ReadsF (w.heap.size+1) w' v2 (ints (Merge.ahd A B))∧Below w.heap.size w w':=by
 obtain ⟨a,ca,rfl,hsA⟩:=hA
 obtain ⟨b,cb,rfl,hsB⟩:=hB
 rw [ints_length] at hsA hsB ⊢
 rw [ints_length]
 have HSA:=qz hsA
 have HSB:=qz hsB
 clear hsA hsB
 obtain ⟨n,hn⟩:∃ n,n=A.length:=⟨_,rfl⟩
 obtain ⟨m,hm⟩:∃ m,m=B.length:=⟨_,rfl⟩
 rw [← hn] at HSA hl1 ⊢
 rw [← hm] at HSB hl2 ⊢
 obtain ⟨room,hroom⟩:∃ room,room=n+m:=⟨_,rfl⟩
 have HRM:Hid (room=A.length+B.length):=qz (by omega)
 have hroom1:(n:Int)+(m:Int)=(room:Int):=by omega
 have hroom2:room≤1000000:=by omega
 have hw1:IntKind.i64.wrap (room:Int)=(room:Int):=IntWalk.i64_in _ (by omega)
 have hw2:IntKind.i64.wrap ((room:Int)+1)=(room:Int)+1:=IntWalk.i64_in _ (by omega)
 have HN:=qz hn
 have HM:=qz hm
 have HROOM:=qz hroom
 clear hn hm hroom
 go_enter Tryz.func171,Tryz.ntmps171
 go_upto_region 2 with fail
 go_cut [8] (fun v8 wc=>∃ bx vi va,v8=.pointer (some ⟨bx,0,none⟩)∧MAt A B w wc bx vi va 0 1)
 case first =>
  refine wp_region_noPanic ?_
  refine wp_region_held_drew (S:=fun _=>True) (by kernel_rfl) True.intro (fun hHeld=>?_)
  obtain ⟨x0,hx0⟩:∃ x0,x0=(w.alloc (.cells two 236)).drew:=⟨_,rfl⟩
  have hgot:=Got.start w room
  rw [← hx0] at hgot
  show wpAnyH _ _ _ _ _ _ _ _ (w.alloc (.cells two 236)).drew
  rw [← hx0]
  clear hx0
  refine hT 0 16 rfl rfl hHeld nPp (v:=?_) (fun x hSx=>?_) ?_
  rotate_left 1
  ·go_simp <;> with_reducible rfl
  simp only [sA,sB]
  refine hT 2 18 rfl rfl hHeld nPp (v:=?_) (fun x hSx=>?_) ?_
  rotate_left 1
  ·go_simp <;> with_reducible rfl
  simp only [sA,sB]
  refine hT 3 19 rfl rfl hHeld nPp (v:=?_) (fun x hSx=>?_) ?_
  rotate_left 1
  ·go_simp <;> with_reducible rfl
  simp only [sA,sB]
  refine held_three (i:=1) (j:=4) (k:=6) (by kernel_rfl) rfl rfl rfl (fun K hK=>?_) (fun K hK=>?_) (fun K hK=>?_)
  ·refine held_go 1 17 hK rfl (by rfl) (v:=.slice (some ⟨x0.heap.size,0,none⟩) 0 room) (w':=x0.alloc (.cells (icells .i64 room fun _=>0) 3)) ?_ True.intro ?_
   ·have mk0:=mk_i x0 room hroom2;have mk1:=mk_a x0 room hroom2;first | (go_simp;done) | (go_simp <;> first | exact ⟨rfl,rfl⟩ | rfl)
   simp only [sA,sB]
   have hg1:=(hgot).makeI
   obtain ⟨y1,hy1⟩:∃ y,y=x0.alloc (.cells (icells .i64 room fun _=>0) 3):=⟨_,rfl⟩
   obtain ⟨by1,hby1⟩:∃ b,b=x0.heap.size:=⟨_,rfl⟩
   rw [← hy1,← hby1] at hg1
   rw [← hy1,← hby1]
   clear hy1 hby1 hgot
   refine held_two (i:=4) (j:=6) (by kernel_rfl) rfl rfl (fun K hK=>?_) (fun K hK=>?_)
   ·refine held_go 4 20 hK rfl (by rfl) (v:=.slice (some ⟨y1.heap.size,0,none⟩) 1 (room+1)) (w':=y1.alloc (.cells (icells .i64 (room+1) fun _=>0) 3)) ?_ True.intro ?_
    ·have mk0:=mk_i y1 room hroom2;have mk1:=mk_a y1 room hroom2;first | (go_simp;done) | (go_simp <;> first | exact ⟨rfl,rfl⟩ | rfl)
    simp only [sA,sB]
    have hg2:=(hg1).makeA
    obtain ⟨y2,hy2⟩:∃ y,y=y1.alloc (.cells (icells .i64 (room+1) fun _=>0) 3):=⟨_,rfl⟩
    obtain ⟨by2,hby2⟩:∃ b,b=y1.heap.size:=⟨_,rfl⟩
    rw [← hy2,← hby2] at hg2
    rw [← hy2,← hby2]
    clear hy2 hby2 hg1
    refine hT 5 21 rfl rfl hHeld nPp (v:=?_) (fun x hSx=>?_) ?_
    rotate_left 1
    ·go_simp <;> with_reducible rfl
    simp only [sA,sB]
    refine held_one 6 8 (by kernel_rfl) rfl rfl (by rfl) (v:=.pointer (some ⟨y2.heap.size,0,none⟩)) (w':=y2.alloc (.cells two 236)) ?_ True.intro ?_
    ·have mk0:=mk_i y2 room hroom2;have mk1:=mk_a y2 room hroom2;first | (go_simp;done) | (go_simp <;> first | exact ⟨rfl,rfl⟩ | rfl)
    simp only [sA,sB]
    have hg3:=(hg2).makeB
    obtain ⟨y3,hy3⟩:∃ y,y=y2.alloc (.cells two 236):=⟨_,rfl⟩
    obtain ⟨by3,hby3⟩:∃ b,b=y2.heap.size:=⟨_,rfl⟩
    rw [← hy3,← hby3] at hg3
    rw [← hy3,← hby3]
    clear hy3 hby3 hg2
    have hcb:=(hg3.b _ rfl).2
    have hc0:y3.cell? ⟨by3,0,none⟩=some (.slice none 0 0):=by simp [World.cell?,hcb,two]
    have hc1:y3.cell? ⟨by3,1,none⟩=some (.slice none 0 0):=by simp [World.cell?,hcb,two]
    have hf0:y3.frozen? ⟨by3,0,none⟩=false:=by simp [World.frozen?,hcb]
    have hf1:y3.frozen? ⟨by3,1,none⟩=false:=by simp [World.frozen?,hcb]
    clear hcb
    have HD:=qz (hg3.done (A:=A) (B:=B) (uh HRM) (by omega))
    clear hg3
    refine held_skip 7 (by kernel_rfl) rfl rfl (by rfl) (w':=(y3.setCell ⟨by3,0,none⟩ (.slice (some ⟨by1,0,none⟩) 0 room)).setCell ⟨by3,1,none⟩ (.slice (some ⟨by2,0,none⟩) 1 (room+1))) ?_ True.intro ?_
    ·first | (go_simp;done) | (go_simp <;> rfl)
    refine wpAnyH_done (by kernel_rfl) ?_ _
    refine NoPanic.normal ?_
    go_wp2_with fail
    go_meet
    exact ⟨by3,_,_,rfl,uh HD⟩
   ·refine held_go 6 8 hK rfl (by rfl) (v:=.pointer (some ⟨y1.heap.size,0,none⟩)) (w':=y1.alloc (.cells two 236)) ?_ True.intro ?_
    ·have mk0:=mk_i y1 room hroom2;have mk1:=mk_a y1 room hroom2;first | (go_simp;done) | (go_simp <;> first | exact ⟨rfl,rfl⟩ | rfl)
    simp only [sA,sB]
    have hg4:=(hg1).makeB
    obtain ⟨y4,hy4⟩:∃ y,y=y1.alloc (.cells two 236):=⟨_,rfl⟩
    obtain ⟨by4,hby4⟩:∃ b,b=y1.heap.size:=⟨_,rfl⟩
    rw [← hy4,← hby4] at hg4
    rw [← hy4,← hby4]
    clear hy4 hby4 hg1
    refine held_one 4 20 (by kernel_rfl) rfl rfl (by rfl) (v:=.slice (some ⟨y4.heap.size,0,none⟩) 1 (room+1)) (w':=y4.alloc (.cells (icells .i64 (room+1) fun _=>0) 3)) ?_ True.intro ?_
    ·have mk0:=mk_i y4 room hroom2;have mk1:=mk_a y4 room hroom2;first | (go_simp;done) | (go_simp <;> first | exact ⟨rfl,rfl⟩ | rfl)
    simp only [sA,sB]
    have hg5:=(hg4).makeA
    obtain ⟨y5,hy5⟩:∃ y,y=y4.alloc (.cells (icells .i64 (room+1) fun _=>0) 3):=⟨_,rfl⟩
    obtain ⟨by5,hby5⟩:∃ b,b=y4.heap.size:=⟨_,rfl⟩
    rw [← hy5,← hby5] at hg5
    rw [← hy5,← hby5]
    clear hy5 hby5 hg4
    refine hT 5 21 rfl rfl hHeld nPp (v:=?_) (fun x hSx=>?_) ?_
    rotate_left 1
    ·go_simp <;> with_reducible rfl
    simp only [sA,sB]
    have hcb:=(hg5.b _ rfl).2
    have hc0:y5.cell? ⟨by4,0,none⟩=some (.slice none 0 0):=by simp [World.cell?,hcb,two]
    have hc1:y5.cell? ⟨by4,1,none⟩=some (.slice none 0 0):=by simp [World.cell?,hcb,two]
    have hf0:y5.frozen? ⟨by4,0,none⟩=false:=by simp [World.frozen?,hcb]
    have hf1:y5.frozen? ⟨by4,1,none⟩=false:=by simp [World.frozen?,hcb]
    clear hcb
    have HD:=qz (hg5.done (A:=A) (B:=B) (uh HRM) (by omega))
    clear hg5
    refine held_skip 7 (by kernel_rfl) rfl rfl (by rfl) (w':=(y5.setCell ⟨by4,0,none⟩ (.slice (some ⟨by1,0,none⟩) 0 room)).setCell ⟨by4,1,none⟩ (.slice (some ⟨by5,0,none⟩) 1 (room+1))) ?_ True.intro ?_
    ·first | (go_simp;done) | (go_simp <;> rfl)
    refine wpAnyH_done (by kernel_rfl) ?_ _
    refine NoPanic.normal ?_
    go_wp2_with fail
    go_meet
    exact ⟨by4,_,_,rfl,uh HD⟩
  ·refine held_go 4 20 hK rfl (by rfl) (v:=.slice (some ⟨x0.heap.size,0,none⟩) 1 (room+1)) (w':=x0.alloc (.cells (icells .i64 (room+1) fun _=>0) 3)) ?_ True.intro ?_
   ·have mk0:=mk_i x0 room hroom2;have mk1:=mk_a x0 room hroom2;first | (go_simp;done) | (go_simp <;> first | exact ⟨rfl,rfl⟩ | rfl)
   simp only [sA,sB]
   have hg6:=(hgot).makeA
   obtain ⟨y6,hy6⟩:∃ y,y=x0.alloc (.cells (icells .i64 (room+1) fun _=>0) 3):=⟨_,rfl⟩
   obtain ⟨by6,hby6⟩:∃ b,b=x0.heap.size:=⟨_,rfl⟩
   rw [← hy6,← hby6] at hg6
   rw [← hy6,← hby6]
   clear hy6 hby6 hgot
   refine held_two (i:=1) (j:=6) (by kernel_rfl) rfl rfl (fun K hK=>?_) (fun K hK=>?_)
   ·refine held_go 1 17 hK rfl (by rfl) (v:=.slice (some ⟨y6.heap.size,0,none⟩) 0 room) (w':=y6.alloc (.cells (icells .i64 room fun _=>0) 3)) ?_ True.intro ?_
    ·have mk0:=mk_i y6 room hroom2;have mk1:=mk_a y6 room hroom2;first | (go_simp;done) | (go_simp <;> first | exact ⟨rfl,rfl⟩ | rfl)
    simp only [sA,sB]
    have hg7:=(hg6).makeI
    obtain ⟨y7,hy7⟩:∃ y,y=y6.alloc (.cells (icells .i64 room fun _=>0) 3):=⟨_,rfl⟩
    obtain ⟨by7,hby7⟩:∃ b,b=y6.heap.size:=⟨_,rfl⟩
    rw [← hy7,← hby7] at hg7
    rw [← hy7,← hby7]
    clear hy7 hby7 hg6
    refine hT 5 21 rfl rfl hHeld nPp (v:=?_) (fun x hSx=>?_) ?_
    rotate_left 1
    ·go_simp <;> with_reducible rfl
    simp only [sA,sB]
    refine held_one 6 8 (by kernel_rfl) rfl rfl (by rfl) (v:=.pointer (some ⟨y7.heap.size,0,none⟩)) (w':=y7.alloc (.cells two 236)) ?_ True.intro ?_
    ·have mk0:=mk_i y7 room hroom2;have mk1:=mk_a y7 room hroom2;first | (go_simp;done) | (go_simp <;> first | exact ⟨rfl,rfl⟩ | rfl)
    simp only [sA,sB]
    have hg8:=(hg7).makeB
    obtain ⟨y8,hy8⟩:∃ y,y=y7.alloc (.cells two 236):=⟨_,rfl⟩
    obtain ⟨by8,hby8⟩:∃ b,b=y7.heap.size:=⟨_,rfl⟩
    rw [← hy8,← hby8] at hg8
    rw [← hy8,← hby8]
    clear hy8 hby8 hg7
    have hcb:=(hg8.b _ rfl).2
    have hc0:y8.cell? ⟨by8,0,none⟩=some (.slice none 0 0):=by simp [World.cell?,hcb,two]
    have hc1:y8.cell? ⟨by8,1,none⟩=some (.slice none 0 0):=by simp [World.cell?,hcb,two]
    have hf0:y8.frozen? ⟨by8,0,none⟩=false:=by simp [World.frozen?,hcb]
    have hf1:y8.frozen? ⟨by8,1,none⟩=false:=by simp [World.frozen?,hcb]
    clear hcb
    have HD:=qz (hg8.done (A:=A) (B:=B) (uh HRM) (by omega))
    clear hg8
    refine held_skip 7 (by kernel_rfl) rfl rfl (by rfl) (w':=(y8.setCell ⟨by8,0,none⟩ (.slice (some ⟨by7,0,none⟩) 0 room)).setCell ⟨by8,1,none⟩ (.slice (some ⟨by6,0,none⟩) 1 (room+1))) ?_ True.intro ?_
    ·first | (go_simp;done) | (go_simp <;> rfl)
    refine wpAnyH_done (by kernel_rfl) ?_ _
    refine NoPanic.normal ?_
    go_wp2_with fail
    go_meet
    exact ⟨by8,_,_,rfl,uh HD⟩
   ·refine held_go 6 8 hK rfl (by rfl) (v:=.pointer (some ⟨y6.heap.size,0,none⟩)) (w':=y6.alloc (.cells two 236)) ?_ True.intro ?_
    ·have mk0:=mk_i y6 room hroom2;have mk1:=mk_a y6 room hroom2;first | (go_simp;done) | (go_simp <;> first | exact ⟨rfl,rfl⟩ | rfl)
    simp only [sA,sB]
    have hg9:=(hg6).makeB
    obtain ⟨y9,hy9⟩:∃ y,y=y6.alloc (.cells two 236):=⟨_,rfl⟩
    obtain ⟨by9,hby9⟩:∃ b,b=y6.heap.size:=⟨_,rfl⟩
    rw [← hy9,← hby9] at hg9
    rw [← hy9,← hby9]
    clear hy9 hby9 hg6
    refine held_one 1 17 (by kernel_rfl) rfl rfl (by rfl) (v:=.slice (some ⟨y9.heap.size,0,none⟩) 0 room) (w':=y9.alloc (.cells (icells .i64 room fun _=>0) 3)) ?_ True.intro ?_
    ·have mk0:=mk_i y9 room hroom2;have mk1:=mk_a y9 room hroom2;first | (go_simp;done) | (go_simp <;> first | exact ⟨rfl,rfl⟩ | rfl)
    simp only [sA,sB]
    have hg10:=(hg9).makeI
    obtain ⟨y10,hy10⟩:∃ y,y=y9.alloc (.cells (icells .i64 room fun _=>0) 3):=⟨_,rfl⟩
    obtain ⟨by10,hby10⟩:∃ b,b=y9.heap.size:=⟨_,rfl⟩
    rw [← hy10,← hby10] at hg10
    rw [← hy10,← hby10]
    clear hy10 hby10 hg9
    refine hT 5 21 rfl rfl hHeld nPp (v:=?_) (fun x hSx=>?_) ?_
    rotate_left 1
    ·go_simp <;> with_reducible rfl
    simp only [sA,sB]
    have hcb:=(hg10.b _ rfl).2
    have hc0:y10.cell? ⟨by9,0,none⟩=some (.slice none 0 0):=by simp [World.cell?,hcb,two]
    have hc1:y10.cell? ⟨by9,1,none⟩=some (.slice none 0 0):=by simp [World.cell?,hcb,two]
    have hf0:y10.frozen? ⟨by9,0,none⟩=false:=by simp [World.frozen?,hcb]
    have hf1:y10.frozen? ⟨by9,1,none⟩=false:=by simp [World.frozen?,hcb]
    clear hcb
    have HD:=qz (hg10.done (A:=A) (B:=B) (uh HRM) (by omega))
    clear hg10
    refine held_skip 7 (by kernel_rfl) rfl rfl (by rfl) (w':=(y10.setCell ⟨by9,0,none⟩ (.slice (some ⟨by10,0,none⟩) 0 room)).setCell ⟨by9,1,none⟩ (.slice (some ⟨by6,0,none⟩) 1 (room+1))) ?_ True.intro ?_
    ·first | (go_simp;done) | (go_simp <;> rfl)
    refine wpAnyH_done (by kernel_rfl) ?_ _
    refine NoPanic.normal ?_
    go_wp2_with fail
    go_meet
    exact ⟨by9,_,_,rfl,uh HD⟩
  ·refine held_go 6 8 hK rfl (by rfl) (v:=.pointer (some ⟨x0.heap.size,0,none⟩)) (w':=x0.alloc (.cells two 236)) ?_ True.intro ?_
   ·have mk0:=mk_i x0 room hroom2;have mk1:=mk_a x0 room hroom2;first | (go_simp;done) | (go_simp <;> first | exact ⟨rfl,rfl⟩ | rfl)
   simp only [sA,sB]
   have hg11:=(hgot).makeB
   obtain ⟨y11,hy11⟩:∃ y,y=x0.alloc (.cells two 236):=⟨_,rfl⟩
   obtain ⟨by11,hby11⟩:∃ b,b=x0.heap.size:=⟨_,rfl⟩
   rw [← hy11,← hby11] at hg11
   rw [← hy11,← hby11]
   clear hy11 hby11 hgot
   refine held_two (i:=1) (j:=4) (by kernel_rfl) rfl rfl (fun K hK=>?_) (fun K hK=>?_)
   ·refine held_go 1 17 hK rfl (by rfl) (v:=.slice (some ⟨y11.heap.size,0,none⟩) 0 room) (w':=y11.alloc (.cells (icells .i64 room fun _=>0) 3)) ?_ True.intro ?_
    ·have mk0:=mk_i y11 room hroom2;have mk1:=mk_a y11 room hroom2;first | (go_simp;done) | (go_simp <;> first | exact ⟨rfl,rfl⟩ | rfl)
    simp only [sA,sB]
    have hg12:=(hg11).makeI
    obtain ⟨y12,hy12⟩:∃ y,y=y11.alloc (.cells (icells .i64 room fun _=>0) 3):=⟨_,rfl⟩
    obtain ⟨by12,hby12⟩:∃ b,b=y11.heap.size:=⟨_,rfl⟩
    rw [← hy12,← hby12] at hg12
    rw [← hy12,← hby12]
    clear hy12 hby12 hg11
    refine held_one 4 20 (by kernel_rfl) rfl rfl (by rfl) (v:=.slice (some ⟨y12.heap.size,0,none⟩) 1 (room+1)) (w':=y12.alloc (.cells (icells .i64 (room+1) fun _=>0) 3)) ?_ True.intro ?_
    ·have mk0:=mk_i y12 room hroom2;have mk1:=mk_a y12 room hroom2;first | (go_simp;done) | (go_simp <;> first | exact ⟨rfl,rfl⟩ | rfl)
    simp only [sA,sB]
    have hg13:=(hg12).makeA
    obtain ⟨y13,hy13⟩:∃ y,y=y12.alloc (.cells (icells .i64 (room+1) fun _=>0) 3):=⟨_,rfl⟩
    obtain ⟨by13,hby13⟩:∃ b,b=y12.heap.size:=⟨_,rfl⟩
    rw [← hy13,← hby13] at hg13
    rw [← hy13,← hby13]
    clear hy13 hby13 hg12
    refine hT 5 21 rfl rfl hHeld nPp (v:=?_) (fun x hSx=>?_) ?_
    rotate_left 1
    ·go_simp <;> with_reducible rfl
    simp only [sA,sB]
    have hcb:=(hg13.b _ rfl).2
    have hc0:y13.cell? ⟨by11,0,none⟩=some (.slice none 0 0):=by simp [World.cell?,hcb,two]
    have hc1:y13.cell? ⟨by11,1,none⟩=some (.slice none 0 0):=by simp [World.cell?,hcb,two]
    have hf0:y13.frozen? ⟨by11,0,none⟩=false:=by simp [World.frozen?,hcb]
    have hf1:y13.frozen? ⟨by11,1,none⟩=false:=by simp [World.frozen?,hcb]
    clear hcb
    have HD:=qz (hg13.done (A:=A) (B:=B) (uh HRM) (by omega))
    clear hg13
    refine held_skip 7 (by kernel_rfl) rfl rfl (by rfl) (w':=(y13.setCell ⟨by11,0,none⟩ (.slice (some ⟨by12,0,none⟩) 0 room)).setCell ⟨by11,1,none⟩ (.slice (some ⟨by13,0,none⟩) 1 (room+1))) ?_ True.intro ?_
    ·first | (go_simp;done) | (go_simp <;> rfl)
    refine wpAnyH_done (by kernel_rfl) ?_ _
    refine NoPanic.normal ?_
    go_wp2_with fail
    go_meet
    exact ⟨by11,_,_,rfl,uh HD⟩
   ·refine held_go 4 20 hK rfl (by rfl) (v:=.slice (some ⟨y11.heap.size,0,none⟩) 1 (room+1)) (w':=y11.alloc (.cells (icells .i64 (room+1) fun _=>0) 3)) ?_ True.intro ?_
    ·have mk0:=mk_i y11 room hroom2;have mk1:=mk_a y11 room hroom2;first | (go_simp;done) | (go_simp <;> first | exact ⟨rfl,rfl⟩ | rfl)
    simp only [sA,sB]
    have hg14:=(hg11).makeA
    obtain ⟨y14,hy14⟩:∃ y,y=y11.alloc (.cells (icells .i64 (room+1) fun _=>0) 3):=⟨_,rfl⟩
    obtain ⟨by14,hby14⟩:∃ b,b=y11.heap.size:=⟨_,rfl⟩
    rw [← hy14,← hby14] at hg14
    rw [← hy14,← hby14]
    clear hy14 hby14 hg11
    refine held_one 1 17 (by kernel_rfl) rfl rfl (by rfl) (v:=.slice (some ⟨y14.heap.size,0,none⟩) 0 room) (w':=y14.alloc (.cells (icells .i64 room fun _=>0) 3)) ?_ True.intro ?_
    ·have mk0:=mk_i y14 room hroom2;have mk1:=mk_a y14 room hroom2;first | (go_simp;done) | (go_simp <;> first | exact ⟨rfl,rfl⟩ | rfl)
    simp only [sA,sB]
    have hg15:=(hg14).makeI
    obtain ⟨y15,hy15⟩:∃ y,y=y14.alloc (.cells (icells .i64 room fun _=>0) 3):=⟨_,rfl⟩
    obtain ⟨by15,hby15⟩:∃ b,b=y14.heap.size:=⟨_,rfl⟩
    rw [← hy15,← hby15] at hg15
    rw [← hy15,← hby15]
    clear hy15 hby15 hg14
    refine hT 5 21 rfl rfl hHeld nPp (v:=?_) (fun x hSx=>?_) ?_
    rotate_left 1
    ·go_simp <;> with_reducible rfl
    simp only [sA,sB]
    have hcb:=(hg15.b _ rfl).2
    have hc0:y15.cell? ⟨by11,0,none⟩=some (.slice none 0 0):=by simp [World.cell?,hcb,two]
    have hc1:y15.cell? ⟨by11,1,none⟩=some (.slice none 0 0):=by simp [World.cell?,hcb,two]
    have hf0:y15.frozen? ⟨by11,0,none⟩=false:=by simp [World.frozen?,hcb]
    have hf1:y15.frozen? ⟨by11,1,none⟩=false:=by simp [World.frozen?,hcb]
    clear hcb
    have HD:=qz (hg15.done (A:=A) (B:=B) (uh HRM) (by omega))
    clear hg15
    refine held_skip 7 (by kernel_rfl) rfl rfl (by rfl) (w':=(y15.setCell ⟨by11,0,none⟩ (.slice (some ⟨by15,0,none⟩) 0 room)).setCell ⟨by11,1,none⟩ (.slice (some ⟨by14,0,none⟩) 1 (room+1))) ?_ True.intro ?_
    ·first | (go_simp;done) | (go_simp <;> rfl)
    refine wpAnyH_done (by kernel_rfl) ?_ _
    refine NoPanic.normal ?_
    go_wp2_with fail
    go_meet
    exact ⟨by11,_,_,rfl,uh HD⟩
 case rest =>
  obtain ⟨bx,vi0,va0,rfl,hat0⟩:=hcut
  obtain ⟨i0,hii,hz0,hz1,hz2⟩:=info_parts info3'
  have HAT0:=qz hat0
  clear hat0
  go_wp2_with fail
  go_loopg [9,10] room (fun gk d c ws=>∃ (i j:Nat) (vi va:Value),gk=room - (i+j)∧i+j≤room∧Merge.st A B (i+j)=(i,j)∧i≤n∧j≤m∧d=.int .i64 (i:Int)∧c=.int .i64 (j:Int)∧MAt A B w ws bx vi va (i+j) (i+j+1))
  case atStart=>exact ⟨0,0,vi0,va0,by omega,by omega,rfl,by omega,by omega,rfl,rfl,uh HAT0⟩
  case round =>
   obtain ⟨i,j,vi,va,rfl,hij,hst,hin,hjm,rfl,rfl,hat⟩:=hrel
   clear HAT0
   have hroom:=uh HROOM
   obtain ⟨p,hp⟩:∃ p,p=i+j:=⟨_,rfl⟩
   rw [← hp] at hst hat hij
   have HP:=qz hp
   have HAT:=qz hat
   by_cases hlt:p<room
   ·have hst1:=st_next A B hst
    have hit:=item_at A B hst (by rw [← uh HN,← uh HM,← hroom];exact hlt)
    have hah:=ahd_at A B (p+1) (by rw [← uh HN,← uh HM,← hroom];omega)
    by_cases hj:j=m
    ·subst hj
     have hi:i<n:=by omega
     obtain ⟨ba,oa,rfl,hcA⟩:=uh HSA (by omega)
     obtain ⟨z,hzA⟩:∃ z,A.getD i 0=z:=⟨_,rfl⟩
     have kA:=hcA i (by omega)
     rw [ints_get A i (by rw [← uh HN];omega),hzA] at kA
     have kA1:=cell_stays hat.bel kA
     clear hcA
     have hg:Merge.goes A B (i,j)=true:=Merge.goes_iff.2 (.inl (uh HM))
     have t1:(i:Int)<(n:Int):=by omega
     have t2:((j:Int) == (j:Int))=true:=by simp
     have HST:Hid (Merge.st A B (p+1)=(i+1,j)):=qz (by rw [hst1,if_pos hg])
     have HIT:Hid ((Merge.mgd A B)[p]?=some z):=qz (by rw [hit,if_pos hg,hzA])
     have HAH:Hid ((Merge.ahd A B)[p+1]?=some (i+1)):=qz (by rw [hah,uh HST])
     clear hst1 hit hah hst hg hzA hat hp hroom
     go_wp2_with fail
     go_quiet (fail)
     go_wp2_with fail
     obtain ⟨x0,hx0⟩:∃ x,x=wr.drewN nq:=⟨_,rfl⟩
     have hat:=(uh HAT).drewN nq
     rw [← hx0] at hat
     rw [← hx0]
     clear hx0 HAT
     go_cut [9] from 22 to 81 (fun v9 wc=>v9=.int .i64 (i:Int)∧∃ vi',MAt A B w wc bx vi' va (p+1) (p+1))
     case first =>
      refine wp_region_noPanic ?_
      refine wp_region_held_drew (S:=fun x:World=>Below w.heap.size w x) (by kernel_rfl) hat.drew.bel (fun hHeld=>?_)
      have hat1:=hat.drew
      obtain ⟨x1,hx1⟩:∃ x,x=x0.drew:=⟨_,rfl⟩
      rw [← hx1] at hat1 hHeld
      rw [← hx1]
      clear hx1 hat
      refine hT 0 54 rfl rfl hHeld nPp (v:=?_) (fun x hSx=>?_) ?_
      rotate_left 1
      ·(have q0:=cell_stays hSx kA;go_simp <;> with_reducible rfl)
      simp only [sA,sB]
      refine hT 2 56 rfl rfl hHeld nPp (v:=?_) (fun x hSx=>?_) ?_
      rotate_left 1
      ·(have q0:=cell_stays hSx kA;go_simp <;> with_reducible rfl)
      simp only [sA,sB]
      refine hT 3 57 rfl rfl hHeld nPp (v:=?_) (fun x hSx=>?_) ?_
      rotate_left 1
      ·(have q0:=cell_stays hSx kA;go_simp <;> with_reducible rfl)
      simp only [sA,sB]
      refine hT 4 58 rfl rfl hHeld nPp (v:=?_) (fun x hSx=>?_) ?_
      rotate_left 1
      ·(have q0:=cell_stays hSx kA;go_simp <;> with_reducible rfl)
      simp only [sA,sB]
      refine hT 5 59 rfl rfl hHeld nPp (v:=?_) (fun x hSx=>?_) ?_
      rotate_left 1
      ·(have q0:=cell_stays hSx kA;go_simp <;> with_reducible rfl)
      simp only [sA,sB]
      refine held_two (i:=1) (j:=6) (by kernel_rfl) rfl rfl (fun K hK=>?_) (fun K hK=>?_)
      ·refine held_go 1 55 hK rfl (by rfl) (v:=vi) (w':=x1) ?_ hHeld ?_
       ·have q0:=hat1.c0;go_simp
       simp only [sA,sB]
       refine held_one 6 60 (by kernel_rfl) rfl rfl (by rfl) (v:=.slice (some ⟨x1.heap.size,0,none⟩) 1 1) (w':=x1.alloc (.cells #[.int .i64 (z:Int)] 3)) ?_ (hHeld.trans ((Below.refl _ _).alloc hHeld.size _)) ?_
       ·go_simp <;> exact ⟨rfl,rfl⟩
       simp only [sA,sB]
       refine held_append 7 61 (.tmp 55) (.tmp 60) (by kernel_rfl) rfl rfl (by rfl) rfl rfl (w.heap.size+1) vi p ((ints ((Merge.mgd A B).take p)).map iv) (by rfl) (hat1.oi.alloc _) ⟨x1.heap.size,0,none⟩ (z:Int) (by rfl) (new_int _ _) (by omega) (by have:=hat1.lt;have:=hat1.lo;simp;omega) (x1.heap.size+1) (by simp) (fun w' hg=>(hat1.grownI hg).2.2) ?_
       intro g cap w2 h1 h2 h3 h4
       simp only [sA,sB]
       obtain ⟨e0,e1,e2⟩:=hat1.grownI h2
       have HX:=qz (hat1.app0 (uh HIT) _ h1 h2 h3)
       clear h1 h2 h3 h4 hHeld
       have hHeld:=e2
       refine hT 8 62 rfl rfl hHeld nPp (v:=?_) (fun x hSx=>?_) ?_
       rotate_left 1
       ·go_simp <;> with_reducible rfl
       simp only [sA,sB]
       refine held_skip 9 (by kernel_rfl) rfl rfl (by rfl) (w':=w2.setCell ⟨bx,0,none⟩ (.slice (some ⟨g,0,none⟩) (p+1) cap)) ?_ (uh HX).bel ?_
       ·go_simp
       refine wpAnyH_done (by kernel_rfl) ?_ _
       refine NoPanic.normal ?_
       go_wp2_with fail
       go_meet
       exact ⟨rfl,_,uh HX⟩
      ·refine held_go 6 60 hK rfl (by rfl) (v:=.slice (some ⟨x1.heap.size,0,none⟩) 1 1) (w':=x1.alloc (.cells #[.int .i64 (z:Int)] 3)) ?_ (hHeld.trans ((Below.refl _ _).alloc hHeld.size _)) ?_
       ·go_simp <;> exact ⟨rfl,rfl⟩
       simp only [sA,sB]
       refine held_one 1 55 (by kernel_rfl) rfl rfl (by rfl) (v:=vi) (w':=x1.alloc (.cells #[.int .i64 (z:Int)] 3)) ?_ (hHeld.trans ((Below.refl _ _).alloc hHeld.size _)) ?_
       ·have q0:(x1.alloc (.cells #[.int .i64 (z:Int)] 3)).cell? ⟨bx,0,none⟩=some vi:=cell_stays ((Below.refl _ _).alloc (Nat.le_refl _) _) hat1.c0;go_simp
       simp only [sA,sB]
       refine held_append 7 61 (.tmp 55) (.tmp 60) (by kernel_rfl) rfl rfl (by rfl) rfl rfl (w.heap.size+1) vi p ((ints ((Merge.mgd A B).take p)).map iv) (by rfl) (hat1.oi.alloc _) ⟨x1.heap.size,0,none⟩ (z:Int) (by rfl) (new_int _ _) (by omega) (by have:=hat1.lt;have:=hat1.lo;simp;omega) (x1.heap.size+1) (by simp) (fun w' hg=>(hat1.grownI hg).2.2) ?_
       intro g cap w2 h1 h2 h3 h4
       simp only [sA,sB]
       obtain ⟨e0,e1,e2⟩:=hat1.grownI h2
       have HX:=qz (hat1.app0 (uh HIT) _ h1 h2 h3)
       clear h1 h2 h3 h4 hHeld
       have hHeld:=e2
       refine hT 8 62 rfl rfl hHeld nPp (v:=?_) (fun x hSx=>?_) ?_
       rotate_left 1
       ·go_simp <;> with_reducible rfl
       simp only [sA,sB]
       refine held_skip 9 (by kernel_rfl) rfl rfl (by rfl) (w':=w2.setCell ⟨bx,0,none⟩ (.slice (some ⟨g,0,none⟩) (p+1) cap)) ?_ (uh HX).bel ?_
       ·go_simp
       refine wpAnyH_done (by kernel_rfl) ?_ _
       refine NoPanic.normal ?_
       go_wp2_with fail
       go_meet
       exact ⟨rfl,_,uh HX⟩
     case rest =>
      obtain ⟨rfl,vi',hat2⟩:=hcut
      clear hat
      have c1:=hat2.c1
      have HAT2:=qz hat2
      have HOWN:=qz (hat2.oa.alloc (.cells #[.int .i64 ((i+1:Nat):Int)] 3))
      have HNEW:=qz (new_news wc ((i+1:Nat):Int))
      have hwlt:Hid (w.heap.size+1≤wc.heap.size+1):=qz (by have:=hat2.bel.size;omega)
      clear hat2
      go_wp2_with (at_builtin;go_must (refine wpList_append_lies _ rfl (.tmp 77) (.tmp 79) 45 rfl (w.heap.size+1) 3 i0 _ 1 8 Tryz.underlying45 hii hz0 hz1 hz2 rfl (by decide) va (p+1) _ (by rfl) (uh HOWN) ⟨wc.heap.size,0,none⟩ 1 1 [iv ((i+1:Nat):Int)] (by rfl) rfl (uh HNEW) (by intro u hu;simp at hu;subst hu;rfl) (by omega) (by unfold maxLen;omega) (by omega) (by have:=uh hwlt;simp;omega) (wc.heap.size+1) (by simp) ?_;intro g cap w2 h1 h2 h3 h4;obtain ⟨e0,e1,e2⟩:=(uh HAT2).grownA h2;have HX:=qz ((uh HAT2).app1 (uh HAH) _ h1 h2 h3);clear h1 h2 h3 h4 c1 e2))
      go_roundg (room - (p+1))
      case measure=>have:=uh HP;omega
      case rel=>exact ⟨i+1,j,vi',_,by have:=uh HP;omega,by have:=uh HP;omega,by rw [show i+1+j=p+1 by have:=uh HP;omega];exact uh HST,by omega,by omega,by go_num,rfl,by rw [show i+1+j=p+1 by have:=uh HP;omega];exact uh HX⟩
    ·have hj':j<m:=by omega
     have t2:((j:Int) == (m:Int))=false:=by simp;omega
     have t3:(j:Int)<(m:Int):=by omega
     by_cases hi:i<n
     ·obtain ⟨ba,oa,rfl,hcA⟩:=uh HSA (by omega)
      obtain ⟨z,hzA⟩:∃ z,A.getD i 0=z:=⟨_,rfl⟩
      have kA:=hcA i (by omega)
      rw [ints_get A i (by rw [← uh HN];omega),hzA] at kA
      have kA1:=cell_stays hat.bel kA
      clear hcA
      obtain ⟨bb,ob,rfl,hcB⟩:=uh HSB (by omega)
      obtain ⟨y,hzB⟩:∃ y,B.getD j 0=y:=⟨_,rfl⟩
      have kB:=hcB j (by omega)
      rw [ints_get B j (by rw [← uh HM];omega),hzB] at kB
      have kB1:=cell_stays hat.bel kB
      clear hcB
      have t1:(i:Int)<(n:Int):=by omega
      by_cases hle:z≤y
      ·have hg:Merge.goes A B (i,j)=true:=Merge.goes_iff.2 (.inr ⟨by rw [← uh HN];exact hi,by rw [hzA,hzB];exact hle⟩)
       clear hzB
       have HLE:=qz (le_yes (z:Int) (y:Int) (by omega))
       have HST:Hid (Merge.st A B (p+1)=(i+1,j)):=qz (by rw [hst1,if_pos hg])
       have HIT:Hid ((Merge.mgd A B)[p]?=some z):=qz (by rw [hit,if_pos hg,hzA])
       have HAH:Hid ((Merge.ahd A B)[p+1]?=some (i+1)):=qz (by rw [hah,uh HST])
       clear hst1 hit hah hst hg hzA hat hp hroom
       go_wp2_with fail
       go_quiet (first | (go_at_call 172;refine Calls.quiet_of_same (uh HLE _)))
       go_wp2_with fail
       obtain ⟨x0,hx0⟩:∃ x,x=wr.drewN nq:=⟨_,rfl⟩
       have hat:=(uh HAT).drewN nq
       rw [← hx0] at hat
       rw [← hx0]
       clear hx0 HAT
       go_cut [9] from 22 to 81 (fun v9 wc=>v9=.int .i64 (i:Int)∧∃ vi',MAt A B w wc bx vi' va (p+1) (p+1))
       case first =>
        refine wp_region_noPanic ?_
        refine wp_region_held_drew (S:=fun x:World=>Below w.heap.size w x) (by kernel_rfl) hat.drew.bel (fun hHeld=>?_)
        have hat1:=hat.drew
        obtain ⟨x1,hx1⟩:∃ x,x=x0.drew:=⟨_,rfl⟩
        rw [← hx1] at hat1 hHeld
        rw [← hx1]
        clear hx1 hat
        refine hT 0 54 rfl rfl hHeld nPp (v:=?_) (fun x hSx=>?_) ?_
        rotate_left 1
        ·(have q0:=cell_stays hSx kA;go_simp <;> with_reducible rfl)
        simp only [sA,sB]
        refine hT 2 56 rfl rfl hHeld nPp (v:=?_) (fun x hSx=>?_) ?_
        rotate_left 1
        ·(have q0:=cell_stays hSx kA;go_simp <;> with_reducible rfl)
        simp only [sA,sB]
        refine hT 3 57 rfl rfl hHeld nPp (v:=?_) (fun x hSx=>?_) ?_
        rotate_left 1
        ·(have q0:=cell_stays hSx kA;go_simp <;> with_reducible rfl)
        simp only [sA,sB]
        refine hT 4 58 rfl rfl hHeld nPp (v:=?_) (fun x hSx=>?_) ?_
        rotate_left 1
        ·(have q0:=cell_stays hSx kA;go_simp <;> with_reducible rfl)
        simp only [sA,sB]
        refine hT 5 59 rfl rfl hHeld nPp (v:=?_) (fun x hSx=>?_) ?_
        rotate_left 1
        ·(have q0:=cell_stays hSx kA;go_simp <;> with_reducible rfl)
        simp only [sA,sB]
        refine held_two (i:=1) (j:=6) (by kernel_rfl) rfl rfl (fun K hK=>?_) (fun K hK=>?_)
        ·refine held_go 1 55 hK rfl (by rfl) (v:=vi) (w':=x1) ?_ hHeld ?_
         ·have q0:=hat1.c0;go_simp
         simp only [sA,sB]
         refine held_one 6 60 (by kernel_rfl) rfl rfl (by rfl) (v:=.slice (some ⟨x1.heap.size,0,none⟩) 1 1) (w':=x1.alloc (.cells #[.int .i64 (z:Int)] 3)) ?_ (hHeld.trans ((Below.refl _ _).alloc hHeld.size _)) ?_
         ·go_simp <;> exact ⟨rfl,rfl⟩
         simp only [sA,sB]
         refine held_append 7 61 (.tmp 55) (.tmp 60) (by kernel_rfl) rfl rfl (by rfl) rfl rfl (w.heap.size+1) vi p ((ints ((Merge.mgd A B).take p)).map iv) (by rfl) (hat1.oi.alloc _) ⟨x1.heap.size,0,none⟩ (z:Int) (by rfl) (new_int _ _) (by omega) (by have:=hat1.lt;have:=hat1.lo;simp;omega) (x1.heap.size+1) (by simp) (fun w' hg=>(hat1.grownI hg).2.2) ?_
         intro g cap w2 h1 h2 h3 h4
         simp only [sA,sB]
         obtain ⟨e0,e1,e2⟩:=hat1.grownI h2
         have HX:=qz (hat1.app0 (uh HIT) _ h1 h2 h3)
         clear h1 h2 h3 h4 hHeld
         have hHeld:=e2
         refine hT 8 62 rfl rfl hHeld nPp (v:=?_) (fun x hSx=>?_) ?_
         rotate_left 1
         ·go_simp <;> with_reducible rfl
         simp only [sA,sB]
         refine held_skip 9 (by kernel_rfl) rfl rfl (by rfl) (w':=w2.setCell ⟨bx,0,none⟩ (.slice (some ⟨g,0,none⟩) (p+1) cap)) ?_ (uh HX).bel ?_
         ·go_simp
         refine wpAnyH_done (by kernel_rfl) ?_ _
         refine NoPanic.normal ?_
         go_wp2_with fail
         go_meet
         exact ⟨rfl,_,uh HX⟩
        ·refine held_go 6 60 hK rfl (by rfl) (v:=.slice (some ⟨x1.heap.size,0,none⟩) 1 1) (w':=x1.alloc (.cells #[.int .i64 (z:Int)] 3)) ?_ (hHeld.trans ((Below.refl _ _).alloc hHeld.size _)) ?_
         ·go_simp <;> exact ⟨rfl,rfl⟩
         simp only [sA,sB]
         refine held_one 1 55 (by kernel_rfl) rfl rfl (by rfl) (v:=vi) (w':=x1.alloc (.cells #[.int .i64 (z:Int)] 3)) ?_ (hHeld.trans ((Below.refl _ _).alloc hHeld.size _)) ?_
         ·have q0:(x1.alloc (.cells #[.int .i64 (z:Int)] 3)).cell? ⟨bx,0,none⟩=some vi:=cell_stays ((Below.refl _ _).alloc (Nat.le_refl _) _) hat1.c0;go_simp
         simp only [sA,sB]
         refine held_append 7 61 (.tmp 55) (.tmp 60) (by kernel_rfl) rfl rfl (by rfl) rfl rfl (w.heap.size+1) vi p ((ints ((Merge.mgd A B).take p)).map iv) (by rfl) (hat1.oi.alloc _) ⟨x1.heap.size,0,none⟩ (z:Int) (by rfl) (new_int _ _) (by omega) (by have:=hat1.lt;have:=hat1.lo;simp;omega) (x1.heap.size+1) (by simp) (fun w' hg=>(hat1.grownI hg).2.2) ?_
         intro g cap w2 h1 h2 h3 h4
         simp only [sA,sB]
         obtain ⟨e0,e1,e2⟩:=hat1.grownI h2
         have HX:=qz (hat1.app0 (uh HIT) _ h1 h2 h3)
         clear h1 h2 h3 h4 hHeld
         have hHeld:=e2
         refine hT 8 62 rfl rfl hHeld nPp (v:=?_) (fun x hSx=>?_) ?_
         rotate_left 1
         ·go_simp <;> with_reducible rfl
         simp only [sA,sB]
         refine held_skip 9 (by kernel_rfl) rfl rfl (by rfl) (w':=w2.setCell ⟨bx,0,none⟩ (.slice (some ⟨g,0,none⟩) (p+1) cap)) ?_ (uh HX).bel ?_
         ·go_simp
         refine wpAnyH_done (by kernel_rfl) ?_ _
         refine NoPanic.normal ?_
         go_wp2_with fail
         go_meet
         exact ⟨rfl,_,uh HX⟩
       case rest =>
        obtain ⟨rfl,vi',hat2⟩:=hcut
        clear hat
        have c1:=hat2.c1
        have HAT2:=qz hat2
        have HOWN:=qz (hat2.oa.alloc (.cells #[.int .i64 ((i+1:Nat):Int)] 3))
        have HNEW:=qz (new_news wc ((i+1:Nat):Int))
        have hwlt:Hid (w.heap.size+1≤wc.heap.size+1):=qz (by have:=hat2.bel.size;omega)
        clear hat2
        go_wp2_with (at_builtin;go_must (refine wpList_append_lies _ rfl (.tmp 77) (.tmp 79) 45 rfl (w.heap.size+1) 3 i0 _ 1 8 Tryz.underlying45 hii hz0 hz1 hz2 rfl (by decide) va (p+1) _ (by rfl) (uh HOWN) ⟨wc.heap.size,0,none⟩ 1 1 [iv ((i+1:Nat):Int)] (by rfl) rfl (uh HNEW) (by intro u hu;simp at hu;subst hu;rfl) (by omega) (by unfold maxLen;omega) (by omega) (by have:=uh hwlt;simp;omega) (wc.heap.size+1) (by simp) ?_;intro g cap w2 h1 h2 h3 h4;obtain ⟨e0,e1,e2⟩:=(uh HAT2).grownA h2;have HX:=qz ((uh HAT2).app1 (uh HAH) _ h1 h2 h3);clear h1 h2 h3 h4 c1 e2))
        go_roundg (room - (p+1))
        case measure=>have:=uh HP;omega
        case rel=>exact ⟨i+1,j,vi',_,by have:=uh HP;omega,by have:=uh HP;omega,by rw [show i+1+j=p+1 by have:=uh HP;omega];exact uh HST,by omega,by omega,by go_num,rfl,by rw [show i+1+j=p+1 by have:=uh HP;omega];exact uh HX⟩
      ·have hg:¬ Merge.goes A B (i,j)=true:=fun h=>by rcases Merge.goes_iff.1 h with h | h;exact hj (by rw [uh HM];exact h);exact hle (by rw [← hzA,← hzB];exact h.2)
       clear hzA
       have HLE:=qz (le_no (z:Int) (y:Int) (by omega))
       have HST:Hid (Merge.st A B (p+1)=(i,j+1)):=qz (by rw [hst1,if_neg hg])
       have HIT:Hid ((Merge.mgd A B)[p]?=some y):=qz (by rw [hit,if_neg hg,hzB])
       have HAH:Hid ((Merge.ahd A B)[p+1]?=some i):=qz (by rw [hah,uh HST])
       clear hst1 hit hah hst hg hzB hat hp hroom
       go_wp2_with fail
       go_quiet (first | (go_at_call 172;refine Calls.quiet_of_same (uh HLE _)))
       go_wp2_with fail
       obtain ⟨x0,hx0⟩:∃ x,x=wr.drewN nq:=⟨_,rfl⟩
       have hat:=(uh HAT).drewN nq
       rw [← hx0] at hat
       rw [← hx0]
       clear hx0 HAT
       go_cut [9] from 22 to 81 (fun v9 wc=>v9=.int .i64 (i:Int)∧∃ vi',MAt A B w wc bx vi' va (p+1) (p+1))
       case first =>
        refine wp_region_noPanic ?_
        refine wp_region_held_drew (S:=fun x:World=>Below w.heap.size w x) (by kernel_rfl) hat.drew.bel (fun hHeld=>?_)
        have hat1:=hat.drew
        obtain ⟨x1,hx1⟩:∃ x,x=x0.drew:=⟨_,rfl⟩
        rw [← hx1] at hat1 hHeld
        rw [← hx1]
        clear hx1 hat
        refine hT 0 65 rfl rfl hHeld nPp (v:=?_) (fun x hSx=>?_) ?_
        rotate_left 1
        ·(have q0:=cell_stays hSx kB;go_simp <;> with_reducible rfl)
        simp only [sA,sB]
        refine hT 2 67 rfl rfl hHeld nPp (v:=?_) (fun x hSx=>?_) ?_
        rotate_left 1
        ·(have q0:=cell_stays hSx kB;go_simp <;> with_reducible rfl)
        simp only [sA,sB]
        refine hT 3 68 rfl rfl hHeld nPp (v:=?_) (fun x hSx=>?_) ?_
        rotate_left 1
        ·(have q0:=cell_stays hSx kB;go_simp <;> with_reducible rfl)
        simp only [sA,sB]
        refine hT 4 69 rfl rfl hHeld nPp (v:=?_) (fun x hSx=>?_) ?_
        rotate_left 1
        ·(have q0:=cell_stays hSx kB;go_simp <;> with_reducible rfl)
        simp only [sA,sB]
        refine hT 5 70 rfl rfl hHeld nPp (v:=?_) (fun x hSx=>?_) ?_
        rotate_left 1
        ·(have q0:=cell_stays hSx kB;go_simp <;> with_reducible rfl)
        simp only [sA,sB]
        refine held_two (i:=1) (j:=6) (by kernel_rfl) rfl rfl (fun K hK=>?_) (fun K hK=>?_)
        ·refine held_go 1 66 hK rfl (by rfl) (v:=vi) (w':=x1) ?_ hHeld ?_
         ·have q0:=hat1.c0;go_simp
         simp only [sA,sB]
         refine held_one 6 71 (by kernel_rfl) rfl rfl (by rfl) (v:=.slice (some ⟨x1.heap.size,0,none⟩) 1 1) (w':=x1.alloc (.cells #[.int .i64 (y:Int)] 3)) ?_ (hHeld.trans ((Below.refl _ _).alloc hHeld.size _)) ?_
         ·go_simp <;> exact ⟨rfl,rfl⟩
         simp only [sA,sB]
         refine held_append 7 72 (.tmp 66) (.tmp 71) (by kernel_rfl) rfl rfl (by rfl) rfl rfl (w.heap.size+1) vi p ((ints ((Merge.mgd A B).take p)).map iv) (by rfl) (hat1.oi.alloc _) ⟨x1.heap.size,0,none⟩ (y:Int) (by rfl) (new_int _ _) (by omega) (by have:=hat1.lt;have:=hat1.lo;simp;omega) (x1.heap.size+1) (by simp) (fun w' hg=>(hat1.grownI hg).2.2) ?_
         intro g cap w2 h1 h2 h3 h4
         simp only [sA,sB]
         obtain ⟨e0,e1,e2⟩:=hat1.grownI h2
         have HX:=qz (hat1.app0 (uh HIT) _ h1 h2 h3)
         clear h1 h2 h3 h4 hHeld
         have hHeld:=e2
         refine hT 8 73 rfl rfl hHeld nPp (v:=?_) (fun x hSx=>?_) ?_
         rotate_left 1
         ·go_simp <;> with_reducible rfl
         simp only [sA,sB]
         refine held_skip 9 (by kernel_rfl) rfl rfl (by rfl) (w':=w2.setCell ⟨bx,0,none⟩ (.slice (some ⟨g,0,none⟩) (p+1) cap)) ?_ (uh HX).bel ?_
         ·go_simp
         refine wpAnyH_done (by kernel_rfl) ?_ _
         refine NoPanic.normal ?_
         go_wp2_with fail
         go_meet
         exact ⟨rfl,_,uh HX⟩
        ·refine held_go 6 71 hK rfl (by rfl) (v:=.slice (some ⟨x1.heap.size,0,none⟩) 1 1) (w':=x1.alloc (.cells #[.int .i64 (y:Int)] 3)) ?_ (hHeld.trans ((Below.refl _ _).alloc hHeld.size _)) ?_
         ·go_simp <;> exact ⟨rfl,rfl⟩
         simp only [sA,sB]
         refine held_one 1 66 (by kernel_rfl) rfl rfl (by rfl) (v:=vi) (w':=x1.alloc (.cells #[.int .i64 (y:Int)] 3)) ?_ (hHeld.trans ((Below.refl _ _).alloc hHeld.size _)) ?_
         ·have q0:(x1.alloc (.cells #[.int .i64 (y:Int)] 3)).cell? ⟨bx,0,none⟩=some vi:=cell_stays ((Below.refl _ _).alloc (Nat.le_refl _) _) hat1.c0;go_simp
         simp only [sA,sB]
         refine held_append 7 72 (.tmp 66) (.tmp 71) (by kernel_rfl) rfl rfl (by rfl) rfl rfl (w.heap.size+1) vi p ((ints ((Merge.mgd A B).take p)).map iv) (by rfl) (hat1.oi.alloc _) ⟨x1.heap.size,0,none⟩ (y:Int) (by rfl) (new_int _ _) (by omega) (by have:=hat1.lt;have:=hat1.lo;simp;omega) (x1.heap.size+1) (by simp) (fun w' hg=>(hat1.grownI hg).2.2) ?_
         intro g cap w2 h1 h2 h3 h4
         simp only [sA,sB]
         obtain ⟨e0,e1,e2⟩:=hat1.grownI h2
         have HX:=qz (hat1.app0 (uh HIT) _ h1 h2 h3)
         clear h1 h2 h3 h4 hHeld
         have hHeld:=e2
         refine hT 8 73 rfl rfl hHeld nPp (v:=?_) (fun x hSx=>?_) ?_
         rotate_left 1
         ·go_simp <;> with_reducible rfl
         simp only [sA,sB]
         refine held_skip 9 (by kernel_rfl) rfl rfl (by rfl) (w':=w2.setCell ⟨bx,0,none⟩ (.slice (some ⟨g,0,none⟩) (p+1) cap)) ?_ (uh HX).bel ?_
         ·go_simp
         refine wpAnyH_done (by kernel_rfl) ?_ _
         refine NoPanic.normal ?_
         go_wp2_with fail
         go_meet
         exact ⟨rfl,_,uh HX⟩
       case rest =>
        obtain ⟨rfl,vi',hat2⟩:=hcut
        clear hat
        have c1:=hat2.c1
        have HAT2:=qz hat2
        have HOWN:=qz (hat2.oa.alloc (.cells #[.int .i64 ((i:Nat):Int)] 3))
        have HNEW:=qz (new_news wc ((i:Nat):Int))
        have hwlt:Hid (w.heap.size+1≤wc.heap.size+1):=qz (by have:=hat2.bel.size;omega)
        clear hat2
        go_wp2_with (at_builtin;go_must (refine wpList_append_lies _ rfl (.tmp 77) (.tmp 79) 45 rfl (w.heap.size+1) 3 i0 _ 1 8 Tryz.underlying45 hii hz0 hz1 hz2 rfl (by decide) va (p+1) _ (by rfl) (uh HOWN) ⟨wc.heap.size,0,none⟩ 1 1 [iv ((i:Nat):Int)] (by rfl) rfl (uh HNEW) (by intro u hu;simp at hu;subst hu;rfl) (by omega) (by unfold maxLen;omega) (by omega) (by have:=uh hwlt;simp;omega) (wc.heap.size+1) (by simp) ?_;intro g cap w2 h1 h2 h3 h4;obtain ⟨e0,e1,e2⟩:=(uh HAT2).grownA h2;have HX:=qz ((uh HAT2).app1 (uh HAH) _ h1 h2 h3);clear h1 h2 h3 h4 c1 e2))
        go_roundg (room - (p+1))
        case measure=>have:=uh HP;omega
        case rel=>exact ⟨i,j+1,vi',_,by have:=uh HP;omega,by have:=uh HP;omega,by rw [show i+(j+1)=p+1 by have:=uh HP;omega];exact uh HST,by omega,by omega,rfl,by go_num,by rw [show i+(j+1)=p+1 by have:=uh HP;omega];exact uh HX⟩
     ·obtain ⟨bb,ob,rfl,hcB⟩:=uh HSB (by omega)
      obtain ⟨y,hzB⟩:∃ y,B.getD j 0=y:=⟨_,rfl⟩
      have kB:=hcB j (by omega)
      rw [ints_get B j (by rw [← uh HM];omega),hzB] at kB
      have kB1:=cell_stays hat.bel kB
      clear hcB
      have t1:¬ (i:Int)<(n:Int):=by omega
      have hg:¬ Merge.goes A B (i,j)=true:=fun h=>by rcases Merge.goes_iff.1 h with h | h;exact hj (by rw [uh HM];exact h);exact hi (by rw [uh HN];exact h.1)
      have HST:Hid (Merge.st A B (p+1)=(i,j+1)):=qz (by rw [hst1,if_neg hg])
      have HIT:Hid ((Merge.mgd A B)[p]?=some y):=qz (by rw [hit,if_neg hg,hzB])
      have HAH:Hid ((Merge.ahd A B)[p+1]?=some i):=qz (by rw [hah,uh HST])
      clear hst1 hit hah hst hg hzB hat hp hroom
      go_wp2_with fail
      go_quiet (fail)
      go_wp2_with fail
      obtain ⟨x0,hx0⟩:∃ x,x=wr.drewN nq:=⟨_,rfl⟩
      have hat:=(uh HAT).drewN nq
      rw [← hx0] at hat
      rw [← hx0]
      clear hx0 HAT
      go_cut [9] from 22 to 81 (fun v9 wc=>v9=.int .i64 (i:Int)∧∃ vi',MAt A B w wc bx vi' va (p+1) (p+1))
      case first =>
       refine wp_region_noPanic ?_
       refine wp_region_held_drew (S:=fun x:World=>Below w.heap.size w x) (by kernel_rfl) hat.drew.bel (fun hHeld=>?_)
       have hat1:=hat.drew
       obtain ⟨x1,hx1⟩:∃ x,x=x0.drew:=⟨_,rfl⟩
       rw [← hx1] at hat1 hHeld
       rw [← hx1]
       clear hx1 hat
       refine hT 0 65 rfl rfl hHeld nPp (v:=?_) (fun x hSx=>?_) ?_
       rotate_left 1
       ·(have q0:=cell_stays hSx kB;go_simp <;> with_reducible rfl)
       simp only [sA,sB]
       refine hT 2 67 rfl rfl hHeld nPp (v:=?_) (fun x hSx=>?_) ?_
       rotate_left 1
       ·(have q0:=cell_stays hSx kB;go_simp <;> with_reducible rfl)
       simp only [sA,sB]
       refine hT 3 68 rfl rfl hHeld nPp (v:=?_) (fun x hSx=>?_) ?_
       rotate_left 1
       ·(have q0:=cell_stays hSx kB;go_simp <;> with_reducible rfl)
       simp only [sA,sB]
       refine hT 4 69 rfl rfl hHeld nPp (v:=?_) (fun x hSx=>?_) ?_
       rotate_left 1
       ·(have q0:=cell_stays hSx kB;go_simp <;> with_reducible rfl)
       simp only [sA,sB]
       refine hT 5 70 rfl rfl hHeld nPp (v:=?_) (fun x hSx=>?_) ?_
       rotate_left 1
       ·(have q0:=cell_stays hSx kB;go_simp <;> with_reducible rfl)
       simp only [sA,sB]
       refine held_two (i:=1) (j:=6) (by kernel_rfl) rfl rfl (fun K hK=>?_) (fun K hK=>?_)
       ·refine held_go 1 66 hK rfl (by rfl) (v:=vi) (w':=x1) ?_ hHeld ?_
        ·have q0:=hat1.c0;go_simp
        simp only [sA,sB]
        refine held_one 6 71 (by kernel_rfl) rfl rfl (by rfl) (v:=.slice (some ⟨x1.heap.size,0,none⟩) 1 1) (w':=x1.alloc (.cells #[.int .i64 (y:Int)] 3)) ?_ (hHeld.trans ((Below.refl _ _).alloc hHeld.size _)) ?_
        ·go_simp <;> exact ⟨rfl,rfl⟩
        simp only [sA,sB]
        refine held_append 7 72 (.tmp 66) (.tmp 71) (by kernel_rfl) rfl rfl (by rfl) rfl rfl (w.heap.size+1) vi p ((ints ((Merge.mgd A B).take p)).map iv) (by rfl) (hat1.oi.alloc _) ⟨x1.heap.size,0,none⟩ (y:Int) (by rfl) (new_int _ _) (by omega) (by have:=hat1.lt;have:=hat1.lo;simp;omega) (x1.heap.size+1) (by simp) (fun w' hg=>(hat1.grownI hg).2.2) ?_
        intro g cap w2 h1 h2 h3 h4
        simp only [sA,sB]
        obtain ⟨e0,e1,e2⟩:=hat1.grownI h2
        have HX:=qz (hat1.app0 (uh HIT) _ h1 h2 h3)
        clear h1 h2 h3 h4 hHeld
        have hHeld:=e2
        refine hT 8 73 rfl rfl hHeld nPp (v:=?_) (fun x hSx=>?_) ?_
        rotate_left 1
        ·go_simp <;> with_reducible rfl
        simp only [sA,sB]
        refine held_skip 9 (by kernel_rfl) rfl rfl (by rfl) (w':=w2.setCell ⟨bx,0,none⟩ (.slice (some ⟨g,0,none⟩) (p+1) cap)) ?_ (uh HX).bel ?_
        ·go_simp
        refine wpAnyH_done (by kernel_rfl) ?_ _
        refine NoPanic.normal ?_
        go_wp2_with fail
        go_meet
        exact ⟨rfl,_,uh HX⟩
       ·refine held_go 6 71 hK rfl (by rfl) (v:=.slice (some ⟨x1.heap.size,0,none⟩) 1 1) (w':=x1.alloc (.cells #[.int .i64 (y:Int)] 3)) ?_ (hHeld.trans ((Below.refl _ _).alloc hHeld.size _)) ?_
        ·go_simp <;> exact ⟨rfl,rfl⟩
        simp only [sA,sB]
        refine held_one 1 66 (by kernel_rfl) rfl rfl (by rfl) (v:=vi) (w':=x1.alloc (.cells #[.int .i64 (y:Int)] 3)) ?_ (hHeld.trans ((Below.refl _ _).alloc hHeld.size _)) ?_
        ·have q0:(x1.alloc (.cells #[.int .i64 (y:Int)] 3)).cell? ⟨bx,0,none⟩=some vi:=cell_stays ((Below.refl _ _).alloc (Nat.le_refl _) _) hat1.c0;go_simp
        simp only [sA,sB]
        refine held_append 7 72 (.tmp 66) (.tmp 71) (by kernel_rfl) rfl rfl (by rfl) rfl rfl (w.heap.size+1) vi p ((ints ((Merge.mgd A B).take p)).map iv) (by rfl) (hat1.oi.alloc _) ⟨x1.heap.size,0,none⟩ (y:Int) (by rfl) (new_int _ _) (by omega) (by have:=hat1.lt;have:=hat1.lo;simp;omega) (x1.heap.size+1) (by simp) (fun w' hg=>(hat1.grownI hg).2.2) ?_
        intro g cap w2 h1 h2 h3 h4
        simp only [sA,sB]
        obtain ⟨e0,e1,e2⟩:=hat1.grownI h2
        have HX:=qz (hat1.app0 (uh HIT) _ h1 h2 h3)
        clear h1 h2 h3 h4 hHeld
        have hHeld:=e2
        refine hT 8 73 rfl rfl hHeld nPp (v:=?_) (fun x hSx=>?_) ?_
        rotate_left 1
        ·go_simp <;> with_reducible rfl
        simp only [sA,sB]
        refine held_skip 9 (by kernel_rfl) rfl rfl (by rfl) (w':=w2.setCell ⟨bx,0,none⟩ (.slice (some ⟨g,0,none⟩) (p+1) cap)) ?_ (uh HX).bel ?_
        ·go_simp
        refine wpAnyH_done (by kernel_rfl) ?_ _
        refine NoPanic.normal ?_
        go_wp2_with fail
        go_meet
        exact ⟨rfl,_,uh HX⟩
      case rest =>
       obtain ⟨rfl,vi',hat2⟩:=hcut
       clear hat
       have c1:=hat2.c1
       have HAT2:=qz hat2
       have HOWN:=qz (hat2.oa.alloc (.cells #[.int .i64 ((i:Nat):Int)] 3))
       have HNEW:=qz (new_news wc ((i:Nat):Int))
       have hwlt:Hid (w.heap.size+1≤wc.heap.size+1):=qz (by have:=hat2.bel.size;omega)
       clear hat2
       go_wp2_with (at_builtin;go_must (refine wpList_append_lies _ rfl (.tmp 77) (.tmp 79) 45 rfl (w.heap.size+1) 3 i0 _ 1 8 Tryz.underlying45 hii hz0 hz1 hz2 rfl (by decide) va (p+1) _ (by rfl) (uh HOWN) ⟨wc.heap.size,0,none⟩ 1 1 [iv ((i:Nat):Int)] (by rfl) rfl (uh HNEW) (by intro u hu;simp at hu;subst hu;rfl) (by omega) (by unfold maxLen;omega) (by omega) (by have:=uh hwlt;simp;omega) (wc.heap.size+1) (by simp) ?_;intro g cap w2 h1 h2 h3 h4;obtain ⟨e0,e1,e2⟩:=(uh HAT2).grownA h2;have HX:=qz ((uh HAT2).app1 (uh HAH) _ h1 h2 h3);clear h1 h2 h3 h4 c1 e2))
       go_roundg (room - (p+1))
       case measure=>have:=uh HP;omega
       case rel=>exact ⟨i,j+1,vi',_,by have:=uh HP;omega,by have:=uh HP;omega,by rw [show i+(j+1)=p+1 by have:=uh HP;omega];exact uh HST,by omega,by omega,rfl,by go_num,by rw [show i+(j+1)=p+1 by have:=uh HP;omega];exact uh HX⟩
   ·obtain rfl:i=n:=by omega
    obtain rfl:j=m:=by omega
    have t1:¬ (i:Int)<(i:Int):=by omega
    have t2:¬ (j:Int)<(j:Int):=by omega
    obtain ⟨a1,k1,rfl⟩:=own_slice hat.oi
    obtain ⟨a2,k2,rfl⟩:=own_slice hat.oa
    have c0:=hat.c0
    have c1:=hat.c1
    have r0:wr.cell? ⟨w.heap.size,0,none⟩=some (.slice none 0 0):=by simp [World.cell?,hat.res,two]
    have r1:wr.cell? ⟨w.heap.size,1,none⟩=some (.slice none 0 0):=by simp [World.cell?,hat.res,two]
    have f0:wr.frozen? ⟨w.heap.size,0,none⟩=false:=by simp [World.frozen?,hat.res]
    have f1:wr.frozen? ⟨w.heap.size,1,none⟩=false:=by simp [World.frozen?,hat.res]
    have HE:=qz (fin_after (MAt.finish hat (by rw [← uh HN,← uh HM];exact hp)) hat.res)
    clear hat hst HAT hp hroom
    go_wp2_with fail
    generalize hW:(wr.setCell ⟨w.heap.size,0,none⟩ (.slice a1 p k1)).setCell ⟨w.heap.size,1,none⟩ (.slice a2 (p+1) k2)=W
    have HFIN:=qz (uh HE)
    rw [hW] at HFIN
    obtain ⟨q1,q2,q3,q4,q5⟩:=uh HFIN
    refine bodyPost_ret (v:=.agg #[.slice a1 p k1,.slice a2 (p+1) k2]) ?_ rfl ⟨_,_,rfl,q1,q2,q5⟩
    rw [results_cell rfl]
    go_simp
end L5
end Go.Proofs.YtabeanealkopbaaGreat
section
namespace Go.Proofs
open Go.Shelf
def Tryz.sortCome_ren:Go.Shelf.Ren:=⟨fun | 6=>166 | 15=>175 | 14=>174 | 28=>186 | 29=>187 | 20=>178 | 21=>179 | 22=>180 | 23=>181 | 24=>182 | 25=>183 | 26=>184 | 27=>185 | 46=>188 | 47=>189 | 48=>190 | 49=>191 | 50=>192 | 57=>193 | n=>n,fun | 22=>219 | 24=>222 | 25=>231 | 3=>3 | 39=>91 | 0=>0 | 53=>128 | 55=>92 | 4=>4 | 46=>245 | 45=>244 | 50=>249 | 5=>5 | 9=>9 | 66=>253 | 70=>257 | 76=>259 | 77=>73 | n=>n,fun | n=>n⟩
theorem Tryz.sortCome:Go.Proofs.SlLaysF0.n6 Tryz.prog Tryz.sortCome_ren:={
 mixed:=by kernel_rfl
 f6:=⟨Tryz.f166.name,by decide,Tryz.func166.trans (congrArg some (by kernel_rfl))⟩
 f14:=⟨Tryz.f174.name,by decide,Tryz.func174.trans (congrArg some (by kernel_rfl))⟩
 f15:=Tryz.func175.trans (congrArg some (by kernel_rfl))
 f20:=⟨Tryz.f178.name,by decide,Tryz.func178.trans (congrArg some (by kernel_rfl))⟩
 f21:=⟨Tryz.f179.name,by decide,Tryz.func179.trans (congrArg some (by kernel_rfl))⟩
 f22:=⟨Tryz.f180.name,by decide,Tryz.func180.trans (congrArg some (by kernel_rfl))⟩
 f23:=⟨Tryz.f181.name,by decide,Tryz.func181.trans (congrArg some (by kernel_rfl))⟩
 f24:=⟨Tryz.f182.name,by decide,Tryz.func182.trans (congrArg some (by kernel_rfl))⟩
 f25:=⟨Tryz.f183.name,by decide,Tryz.func183.trans (congrArg some (by kernel_rfl))⟩
 f26:=⟨Tryz.f184.name,by decide,Tryz.func184.trans (congrArg some (by kernel_rfl))⟩
 f27:=⟨Tryz.f185.name,by decide,Tryz.func185.trans (congrArg some (by kernel_rfl))⟩
 f28:=Tryz.func186.trans (congrArg some (by kernel_rfl))
 f29:=Tryz.func187.trans (congrArg some (by kernel_rfl))
 f46:=⟨Tryz.f188.name,by decide,Tryz.func188.trans (congrArg some (by kernel_rfl))⟩
 f47:=Tryz.func189.trans (congrArg some (by kernel_rfl))
 f48:=Tryz.func190.trans (congrArg some (by kernel_rfl))
 f49:=⟨Tryz.f191.name,by decide,Tryz.func191.trans (congrArg some (by kernel_rfl))⟩
 f50:=⟨Tryz.f192.name,by decide,Tryz.func192.trans (congrArg some (by kernel_rfl))⟩
 f57:=⟨Tryz.f193.name,by decide,Tryz.func193.trans (congrArg some (by kernel_rfl))⟩
 t0:=Tryz.underlying0
 a0:=Tryz.isAgg0
 z0:=Tryz.sizeOf0
 v0:=Tryz.zeroValue0
 t3:=Tryz.underlying3
 a3:=Tryz.isAgg3
 z3:=Tryz.sizeOf3
 v3:=Tryz.zeroValue3
 t4:=Tryz.underlying4
 a4:=Tryz.isAgg4
 z4:=Tryz.sizeOf4
 v4:=Tryz.zeroValue4
 t5:=Tryz.underlying5
 a5:=Tryz.isAgg5
 z5:=Tryz.sizeOf5
 v5:=Tryz.zeroValue5
 t9:=Tryz.underlying9
 a9:=Tryz.isAgg9
 z9:=Tryz.sizeOf9
 v9:=Tryz.zeroValue9
 t22:=Tryz.underlying219
 a22:=Tryz.isAgg219
 z22:=Tryz.sizeOf219
 v22:=Tryz.zeroValue219
 t25:=Tryz.underlying231
 a25:=Tryz.isAgg231
 z25:=Tryz.sizeOf231
 v25:=Tryz.zeroValue231
 t39:=Tryz.underlying91
 a39:=Tryz.isAgg91
 z39:=Tryz.sizeOf91
 v39:=Tryz.zeroValue91
 t45:=Tryz.underlying244
 a45:=Tryz.isAgg244
 z45:=Tryz.sizeOf244
 v45:=Tryz.zeroValue244
 t46:=Tryz.underlying245
 a46:=Tryz.isAgg245
 z46:=Tryz.sizeOf245
 v46:=Tryz.zeroValue245
 t50:=Tryz.underlying249
 a50:=Tryz.isAgg249
 z50:=Tryz.sizeOf249
 v50:=Tryz.zeroValue249
 t53:=Tryz.underlying128
 a53:=Tryz.isAgg128
 z53:=Tryz.sizeOf128
 v53:=Tryz.zeroValue128
 t55:=Tryz.underlying92
 a55:=Tryz.isAgg92
 z55:=Tryz.sizeOf92
 v55:=Tryz.zeroValue92
 t66:=Tryz.underlying253
 a66:=Tryz.isAgg253
 z66:=Tryz.sizeOf253
 v66:=Tryz.zeroValue253
 t70:=Tryz.underlying257
 a70:=Tryz.isAgg257
 z70:=Tryz.sizeOf257
 v70:=Tryz.zeroValue257
 t76:=Tryz.underlying259
 a76:=Tryz.isAgg259
 z76:=Tryz.sizeOf259
 v76:=Tryz.zeroValue259
 t77:=Tryz.underlying73
 a77:=Tryz.isAgg73
 z77:=Tryz.sizeOf73
 v77:=Tryz.zeroValue73 }
def Tryz.laysSlC25_f22_ren:Go.Shelf.Ren:=⟨fun | 5=>169 | 7=>176 | n=>n,fun | 22=>3 | 3=>3 | 4=>4 | n=>n,fun | n=>n⟩
theorem Tryz.laysSlC25_f22:Go.Proofs.SlLaysC2.n5 Tryz.prog Tryz.laysSlC25_f22_ren:={
 mixed:=by kernel_rfl
 f5:=⟨Tryz.f169.name,by decide,Tryz.func169.trans (congrArg some (by kernel_rfl))⟩
 f7:=⟨Tryz.f176.name,by decide,Tryz.func176.trans (congrArg some (by kernel_rfl))⟩
 t3:=Tryz.underlying3
 a3:=Tryz.isAgg3
 z3:=Tryz.sizeOf3
 v3:=Tryz.zeroValue3
 t4:=Tryz.underlying4
 a4:=Tryz.isAgg4
 z4:=Tryz.sizeOf4
 v4:=Tryz.zeroValue4
 t22:=Tryz.underlying3
 a22:=Tryz.isAgg3
 z22:=Tryz.sizeOf3
 v22:=Tryz.zeroValue3 }
open Go.Lib in
theorem Tryz.cmp_Compare_int (x y:Int) (w:World) :
  Calls Tryz.prog 169 #[.int .i64 x,.int .i64 y] w fun e w'=>e=.returned (.int .i64 (Lib.compareInt x y))∧w'=w:=AnyG.cmp_Compare_int Tryz.laysSlC25_f22 x y w
end Go.Proofs
end
namespace Go.Proofs.YtabeanealkopbaaGreat
end Go.Proofs.YtabeanealkopbaaGreat
