/- Texts of one proof, one behind the other: New, Word, W4Word, W4Own, W4Fill, W4Put, W4Rd, W4Nobody, W4CPut, W4WriteMath, W4WrTwo, Merge, Best, Infl, InflM, InflG, InflS, GetMath, InflC, Cp, Sym, DeflA. -/
import Derived.Test.YtabeanealkopbaaGreatDbqA
import Derived.BigQuiet
import Derived.Deep.QuietTactic
import Derived.Test.YtabeanealkopbaaGreatRows
import Derived.WalkKit
import Derived.WalkSpells
import Derived.Handy
import Derived.Laws.Rows
import Derived.Laws.BitsAllLaws
import Derived.WalkMore
import Derived.Deep.LoopGhost
import Derived.Deep.RegionHeld3
import Derived.Deep.AppendLies
import Derived.Deep.DrawnRows
import Derived.Deep.DeepMust
import Derived.StillTailTactics
import Derived.Laws.CopyOwn
import Derived.Laws.IdiomStrings
import Derived.ProofKit
import Derived.OpenShut
import Derived.ChangeOld
import Derived.Lib.SmallJoins
import Derived.Laws.AppendOwnNone
import Derived.Maps.AppendAt
import Derived.KernelRfl

set_option linter.unusedVariables false
set_option maxRecDepth 100000
set_option maxHeartbeats 24000000
namespace Go.Proofs.YtabeanealkopbaaGreat
section
open Go.RowKit
structure CodeAt (ls:List Nat) (w:World) (cp lo hi wg g cap N base:Nat) (A B S:Nat→Nat) (H:Nat→Bool) (ix ky:Nat→Nat):Prop where
 blk:w.heap[cp]?=some (.cells #[.bool true,.slice (some ⟨wg,0,none⟩) ls.length ls.length,.slice (some ⟨g,0,none⟩) N cap] 155 (0,0))
 words:WordsAt w 188 wg ls.length (wdz ls) (Canon.ln ls)
 nodes:NodesAt w base g cap N A B S H
 tr:Trie N A B S H (Beg ls ls.length) (Wrd ls ls.length) ix ky
 good:Good ls
 small:ls.length≤65536
 b1:lo≤cp∧cp<hi
 b2:lo≤wg∧wg<hi
 b3:lo≤g∧g<hi
def Code (ls:List Nat) (w:World) (cp lo hi:Nat):Prop:=∃ wg g cap N base A B S H ix ky,CodeAt ls w cp lo hi wg g cap N base A B S H ix ky
theorem Code.keep {ls:List Nat} {w w':World} {cp lo hi:Nat} (h:Code ls w cp lo hi) (hk:∀ k,lo≤k→k<hi→w'.heap[k]?=w.heap[k]?):Code ls w' cp lo hi:=by
 obtain ⟨wg,g,cap,N,base,A,B,S,H,ix,ky,h⟩:=h
 exact ⟨wg,g,cap,N,base,A,B,S,H,ix,ky,by rw [hk _ h.b1.1 h.b1.2];exact h.blk,by unfold WordsAt;rw [hk _ h.b2.1 h.b2.2];exact h.words,h.nodes.keep (hk _ h.b3.1 h.b3.2),h.tr,h.good,h.small,h.b1,h.b2,h.b3⟩
theorem Code.below {ls:List Nat} {w w':World} {cp lo hi B:Nat} (h:Code ls w cp lo hi) (hb:Below B w w') (hB:hi≤B):Code ls w' cp lo hi:=h.keep fun k _ h2=>hb.block k (by omega)
def pnewPost (zs:List Int) (most:Int) (loose:Bool) (w:World) (e:Ending) (w':World):Prop :=
 (¬ (okArgs zs.length most∧∀ z∈zs,okLen most z)→e=.returned (.tuple #[.pointer none,.int .i64 2])) ∧
 ((okArgs zs.length most∧∀ z∈zs,okLen most z)→¬ okSum (nat zs) loose→e=.returned (.tuple #[.pointer none,.int .i64 13])) ∧
 ((okArgs zs.length most∧∀ z∈zs,okLen most z)→okSum (nat zs) loose→∃ cp,e=.returned (.tuple #[.pointer (some ⟨cp,0,none⟩),.int .i64 0])∧Code (nat zs) w' cp w.heap.size w'.heap.size) ∧
 Below w.heap.size w w'
theorem pnewPost.bad {zs:List Int} {most:Int} {loose:Bool} {w:World} (h:¬ (okArgs zs.length most∧∀ z∈zs,okLen most z)):pnewPost zs most loose w (.returned (.tuple #[.pointer none,.int .i64 2])) w :=
 ⟨fun _=>rfl,fun h'=>absurd h' h,fun h'=>absurd h' h,Below.refl _ _⟩
theorem okSum_iff {ls:List Nat} {M:Nat} {loose:Bool} (h:∀ l∈ls,l≤M) (hM:M≤20):okSum ls loose↔fullB ls M=true∨loose=true∧bareB ls=true:=by
 unfold okSum
 rw [← full_iff ls M h hM]
 simp only [fullB,bareB,decide_eq_true_eq]
theorem pnew_args (a:Option Addr) (n cap:Nat) (most:Int) (loose:Bool) (w:World) (h:¬ okArgs n most) :
  Calls Tryz.prog 60 #[.slice a n cap,.int .i64 most,.bool loose] w fun e w'=>e=.returned (.tuple #[.pointer none,.int .i64 2])∧w'=w:=by
 have H:=qz h
 clear h
 go_enter Tryz.func60,Tryz.ntmps60
 go_wp2_with (go_at_call 87;refine (fit_args _ _ _ _ _ (uh H)).mono ?_;rintro e w' ⟨rfl,rfl⟩)
 go_ret2
 exact ⟨rfl,rfl⟩
theorem pnew_lens (v:Value) (zs:List Int) (most:Int) (loose:Bool) (w:World) (hr:ReadsI w v zs) (hok:okArgs zs.length most) (hb:fitB most zs=false) :
  Calls Tryz.prog 60 #[v,.int .i64 most,.bool loose] w fun e w'=>e=.returned (.tuple #[.pointer none,.int .i64 2])∧w'=w:=by
 have HR:=qz hr
 have HOK:=qz hok
 clear hr hok
 go_enter Tryz.func60,Tryz.ntmps60
 go_wp2_with (go_at_call 87;refine (fit_good _ zs _ _ (uh HR) (uh HOK)).mono ?_;rintro e w' ⟨rfl,rfl⟩)
 go_ret2
 exact ⟨rfl,rfl⟩
theorem code_made {ls:List Nat} {w wc ww w3:World} {wg g cap N:Nat} {A B S:Nat→Nat} {H:Nat→Bool} {ix ky:Nat→Nat} (hg:Good ls) (hn:ls.length≤65536) (b1:Below w.heap.size w wc) (h1:wc.heap.size≤wg) (hw:WordsAt ww 188 wg ls.length (wdz ls) (Canon.ln ls)) (b2:Below wc.heap.size wc ww)
  (h3:WayAt ww w3 g cap N A B S H (Beg ls ls.length) (Wrd ls ls.length) ix ky) :
  Code ls (w3.alloc (.cells #[.bool true,.slice (some ⟨wg,0,none⟩) ls.length ls.length,.slice (some ⟨g,0,none⟩) N cap] 155)) w3.heap.size w.heap.size (w3.alloc (.cells #[.bool true,.slice (some ⟨wg,0,none⟩) ls.length ls.length,.slice (some ⟨g,0,none⟩) N cap] 155)).heap.size∧Below w.heap.size w (w3.alloc (.cells #[.bool true,.slice (some ⟨wg,0,none⟩) ls.length ls.length,.slice (some ⟨g,0,none⟩) N cap] 155)):=by
 have s1:=b1.size
 have s2:=b2.size
 have s3:=h3.bel.size
 have hl:=h3.row.lt
 have hwl:=hw.lt
 have hw3:=hw.stays h3.bel hwl
 refine ⟨⟨wg,g,cap,N,_,A,B,S,H,ix,ky,heap_alloc_new _ _,hw3.alloc _,h3.row.keep (Below.heap_alloc _ _ _ hl.2),h3.tr,hg,hn,?_,?_,?_⟩,?_⟩
 ·simp;omega
 ·simp;omega
 ·simp;omega
 ·exact ((b1.trans (b2.mono (by omega))).trans (h3.bel.mono (by omega))).alloc (by omega) _
theorem lens_le {zs:List Int} {M:Nat} (hz:∀ z∈zs,okLen (M:Int) z):∀ l∈nat zs,l≤M:=fun l hl=>by
 obtain ⟨z,hz',rfl⟩:=List.mem_map.1 hl
 have:=hz z hz'
 unfold okLen at this
 omega
theorem pnew_no1 (v:Value) (zs:List Int) (M:Nat) (loose:Bool) (w:World) (hr:ReadsI w v zs) (hok:okArgs zs.length (M:Int)) (hz:∀ z∈zs,okLen (M:Int) z) (hF:fullB (nat zs) M=false) (hl:loose=false) :
  Calls Tryz.prog 60 #[v,.int .i64 (M:Int),.bool loose] w fun e w'=>e=.returned (.tuple #[.pointer none,.int .i64 13])∧Below w.heap.size w w':=by
 obtain ⟨q1,q2,q3,q4⟩:=id hok
 have hM20:M≤20:=by omega
 have hM0:¬ M=0:=by omega
 have hlM:=lens_le hz
 have hl20:∀ l∈nat zs,l≤20:=fun l hl=>by have:=hlM l hl;omega
 have hlen:(nat zs).length=zs.length:=by simp [nat]
 have HFIT:Hid (fitB (M:Int) zs=true):=qz (decide_eq_true hz)
 have HR:=qz hr
 have HOK:=qz hok
 have HZ:=qz hz
 have HM:=qz hlM
 have H20:=qz hl20
 have HLEN:=qz hlen
 clear hr hok hz hlM hl20 hlen q1 q2 q3
 subst hl
 have HF:=qz hF
 clear hF
 go_enter Tryz.func60,Tryz.ntmps60
 go_wp2_with (first | (go_at_call 87;refine (fit_good _ zs _ _ (uh HR) (uh HOK)).mono ?_;rintro e w' ⟨rfl,rfl⟩;rw [uh HFIT]) | (go_at_call 88;go_must (refine (counts_ok _ zs M _ (uh HR) q4 (uh HZ) hM20).mono ?_;rintro e wc ⟨cg,rfl,h1,h2,h3⟩;have H1:=qz h1;have H2:=qz h2;have H3:=qz h3;clear h1 h2 h3)) | (go_at_call 89;go_must (refine (full_ok (nat zs) M cg _ (uh H20) (by rw [uh HLEN];exact q4) hM20 hM0 (uh H2)).mono ?_;rintro e w' ⟨rfl,rfl⟩;rw [uh HF])))
 go_ret2
 exact ⟨rfl,uh H3⟩
theorem pnew_no2 (v:Value) (zs:List Int) (M:Nat) (loose:Bool) (w:World) (hr:ReadsI w v zs) (hok:okArgs zs.length (M:Int)) (hz:∀ z∈zs,okLen (M:Int) z) (hF:fullB (nat zs) M=false) (hl:loose=true) (hB:bareB (nat zs)=false) :
  Calls Tryz.prog 60 #[v,.int .i64 (M:Int),.bool loose] w fun e w'=>e=.returned (.tuple #[.pointer none,.int .i64 13])∧Below w.heap.size w w':=by
 obtain ⟨q1,q2,q3,q4⟩:=id hok
 have hM20:M≤20:=by omega
 have hM0:¬ M=0:=by omega
 have hlM:=lens_le hz
 have hl20:∀ l∈nat zs,l≤20:=fun l hl=>by have:=hlM l hl;omega
 have hlen:(nat zs).length=zs.length:=by simp [nat]
 have HFIT:Hid (fitB (M:Int) zs=true):=qz (decide_eq_true hz)
 have HR:=qz hr
 have HOK:=qz hok
 have HZ:=qz hz
 have HM:=qz hlM
 have H20:=qz hl20
 have HLEN:=qz hlen
 clear hr hok hz hlM hl20 hlen q1 q2 q3
 subst hl
 have HF:=qz hF
 have HB:=qz hB
 clear hF hB
 go_enter Tryz.func60,Tryz.ntmps60
 go_wp2_with (first | (go_at_call 87;refine (fit_good _ zs _ _ (uh HR) (uh HOK)).mono ?_;rintro e w' ⟨rfl,rfl⟩;rw [uh HFIT]) | (go_at_call 88;go_must (refine (counts_ok _ zs M _ (uh HR) q4 (uh HZ) hM20).mono ?_;rintro e wc ⟨cg,rfl,h1,h2,h3⟩;have H1:=qz h1;have H2:=qz h2;have H3:=qz h3;clear h1 h2 h3)) | (go_at_call 89;go_must (refine (full_ok (nat zs) M cg _ (uh H20) (by rw [uh HLEN];exact q4) hM20 hM0 (uh H2)).mono ?_;rintro e w' ⟨rfl,rfl⟩;rw [uh HF])) | (go_at_call 90;go_must (refine (bare_ok (nat zs) M cg _ (uh HM) (by rw [uh HLEN];exact q4) hM20 hM0 (uh H2)).mono ?_;rintro e w' ⟨rfl,rfl⟩;rw [uh HB])))
 go_ret2
 exact ⟨rfl,uh H3⟩
theorem pnew_yes1 (v:Value) (zs:List Int) (M:Nat) (loose:Bool) (w:World) (hr:ReadsI w v zs) (hok:okArgs zs.length (M:Int)) (hz:∀ z∈zs,okLen (M:Int) z) (hg:Good (nat zs)) (hF:fullB (nat zs) M=true) :
  Calls Tryz.prog 60 #[v,.int .i64 (M:Int),.bool loose] w fun e w'=>∃ cp,e=.returned (.tuple #[.pointer (some ⟨cp,0,none⟩),.int .i64 0])∧Code (nat zs) w' cp w.heap.size w'.heap.size∧Below w.heap.size w w':=by
 obtain ⟨q1,q2,q3,q4⟩:=id hok
 have hM20:M≤20:=by omega
 have hM0:¬ M=0:=by omega
 have hlM:=lens_le hz
 have hl20:∀ l∈nat zs,l≤20:=fun l hl=>by have:=hlM l hl;omega
 have hlen:(nat zs).length=zs.length:=by simp [nat]
 have HFIT:Hid (fitB (M:Int) zs=true):=qz (decide_eq_true hz)
 have HR:=qz hr
 have HOK:=qz hok
 have HZ:=qz hz
 have HM:=qz hlM
 have H20:=qz hl20
 have HLEN:=qz hlen
 clear hr hok hz hlM hl20 hlen q1 q2 q3
 have HG:=qz hg
 clear hg
 have HF:=qz hF
 clear hF
 go_enter Tryz.func60,Tryz.ntmps60
 go_wp2_with (first | (go_at_call 87;refine (fit_good _ zs _ _ (uh HR) (uh HOK)).mono ?_;rintro e w' ⟨rfl,rfl⟩;rw [uh HFIT]) | (go_at_call 88;go_must (refine (counts_ok _ zs M _ (uh HR) q4 (uh HZ) hM20).mono ?_;rintro e wc ⟨cg,rfl,h1,h2,h3⟩;have H1:=qz h1;have H2:=qz h2;have H3:=qz h3;clear h1 h2 h3)) | (go_at_call 89;go_must (refine (full_ok (nat zs) M cg _ (uh H20) (by rw [uh HLEN];exact q4) hM20 hM0 (uh H2)).mono ?_;rintro e w' ⟨rfl,rfl⟩;rw [uh HF])) | (go_at_call 91;go_must (refine (lay_ok _ zs M cg _ _ (uh HR) (uh H3) q4 (uh HZ) hM20 (uh HG).sum (uh H2)).mono ?_;rintro e ww ⟨wg,rfl,h4,h5,h6⟩;rw [← uh HLEN] at h5;have H4:=qz h4;have H5:=qz h5;have H6:=qz h6;clear h4 h5 h6;rw [← uh HLEN])) | (go_at_call 92;go_must (refine (ways_ok (nat zs) wg (nat zs).length _ (uh HG) rfl (by rw [uh HLEN];exact q4) (uh H5)).mono ?_;rintro e w3 ⟨g,cap,N,A,B,S,H,ix,ky,rfl,h7⟩;have H7:=qz h7;clear h7)))
 go_ret2
 have hh:=code_made (uh HG) (by rw [uh HLEN];exact q4) (uh H3) (uh H4) (uh H5) (uh H6) (uh H7)
 exact ⟨_,rfl,hh.1,hh.2⟩
theorem pnew_yes2 (v:Value) (zs:List Int) (M:Nat) (loose:Bool) (w:World) (hr:ReadsI w v zs) (hok:okArgs zs.length (M:Int)) (hz:∀ z∈zs,okLen (M:Int) z) (hg:Good (nat zs)) (hF:fullB (nat zs) M=false) (hl:loose=true) (hB:bareB (nat zs)=true) :
  Calls Tryz.prog 60 #[v,.int .i64 (M:Int),.bool loose] w fun e w'=>∃ cp,e=.returned (.tuple #[.pointer (some ⟨cp,0,none⟩),.int .i64 0])∧Code (nat zs) w' cp w.heap.size w'.heap.size∧Below w.heap.size w w':=by
 obtain ⟨q1,q2,q3,q4⟩:=id hok
 have hM20:M≤20:=by omega
 have hM0:¬ M=0:=by omega
 have hlM:=lens_le hz
 have hl20:∀ l∈nat zs,l≤20:=fun l hl=>by have:=hlM l hl;omega
 have hlen:(nat zs).length=zs.length:=by simp [nat]
 have HFIT:Hid (fitB (M:Int) zs=true):=qz (decide_eq_true hz)
 have HR:=qz hr
 have HOK:=qz hok
 have HZ:=qz hz
 have HM:=qz hlM
 have H20:=qz hl20
 have HLEN:=qz hlen
 clear hr hok hz hlM hl20 hlen q1 q2 q3
 have HG:=qz hg
 clear hg
 subst hl
 have HF:=qz hF
 have HB:=qz hB
 clear hF hB
 go_enter Tryz.func60,Tryz.ntmps60
 go_wp2_with (first | (go_at_call 87;refine (fit_good _ zs _ _ (uh HR) (uh HOK)).mono ?_;rintro e w' ⟨rfl,rfl⟩;rw [uh HFIT]) | (go_at_call 88;go_must (refine (counts_ok _ zs M _ (uh HR) q4 (uh HZ) hM20).mono ?_;rintro e wc ⟨cg,rfl,h1,h2,h3⟩;have H1:=qz h1;have H2:=qz h2;have H3:=qz h3;clear h1 h2 h3)) | (go_at_call 89;go_must (refine (full_ok (nat zs) M cg _ (uh H20) (by rw [uh HLEN];exact q4) hM20 hM0 (uh H2)).mono ?_;rintro e w' ⟨rfl,rfl⟩;rw [uh HF])) | (go_at_call 90;go_must (refine (bare_ok (nat zs) M cg _ (uh HM) (by rw [uh HLEN];exact q4) hM20 hM0 (uh H2)).mono ?_;rintro e w' ⟨rfl,rfl⟩;rw [uh HB])) | (go_at_call 91;go_must (refine (lay_ok _ zs M cg _ _ (uh HR) (uh H3) q4 (uh HZ) hM20 (uh HG).sum (uh H2)).mono ?_;rintro e ww ⟨wg,rfl,h4,h5,h6⟩;rw [← uh HLEN] at h5;have H4:=qz h4;have H5:=qz h5;have H6:=qz h6;clear h4 h5 h6;rw [← uh HLEN])) | (go_at_call 92;go_must (refine (ways_ok (nat zs) wg (nat zs).length _ (uh HG) rfl (by rw [uh HLEN];exact q4) (uh H5)).mono ?_;rintro e w3 ⟨g,cap,N,A,B,S,H,ix,ky,rfl,h7⟩;have H7:=qz h7;clear h7)))
 go_ret2
 have hh:=code_made (uh HG) (by rw [uh HLEN];exact q4) (uh H3) (uh H4) (uh H5) (uh H6) (uh H7)
 exact ⟨_,rfl,hh.1,hh.2⟩
theorem pnew_ok (v:Value) (zs:List Int) (most:Int) (loose:Bool) (w:World) (hr:ReadsI w v zs) :
  Calls Tryz.prog 60 #[v,.int .i64 most,.bool loose] w fun e w'=>pnewPost zs most loose w e w':=by
 by_cases hok:okArgs zs.length most
 ·by_cases hz:∀ z∈zs,okLen most z
  ·obtain ⟨M,rfl⟩:=Int.eq_ofNat_of_zero_le (show 0≤most by have:=hok.1;omega)
   have hM:M≤20:=by have:=hok.2.1;omega
   have hiff:=okSum_iff (loose:=loose) (lens_le hz) hM
   have ho:okArgs zs.length (M:Int)∧∀ z∈zs,okLen (M:Int) z:=⟨hok,hz⟩
   have l20:∀ l∈nat zs,l≤20:=fun l hl=>by have:=lens_le hz l hl;omega
   by_cases hs:okSum (nat zs) loose
   ·have hg:Good (nat zs):=⟨l20,okSum.le l20 hs⟩
    cases hF:fullB (nat zs) M with
    | true=>exact (pnew_yes1 v zs M loose w hr hok hz hg hF).mono fun e w' ⟨cp,he,hc,hb⟩=>⟨fun h=>absurd ho h,fun _ h=>absurd hs h,fun _ _=>⟨cp,he,hc⟩,hb⟩
    | false =>
     have h2:=(hiff.1 hs).resolve_left (by rw [hF];simp)
     exact (pnew_yes2 v zs M loose w hr hok hz hg hF h2.1 h2.2).mono fun e w' ⟨cp,he,hc,hb⟩=>⟨fun h=>absurd ho h,fun _ h=>absurd hs h,fun _ _=>⟨cp,he,hc⟩,hb⟩
   ·have hF:fullB (nat zs) M=false:=by
     cases hF:fullB (nat zs) M with
     | true=>exact absurd (hiff.2 (.inl hF)) hs
     | false=>rfl
    cases hl:loose with
    | false =>
     rw [hl] at hs
     exact (pnew_no1 v zs M false w hr hok hz hF rfl).mono fun e w' ⟨he,hb⟩=>⟨fun h=>absurd ho h,fun _ _=>he,fun _ h=>absurd h hs,hb⟩
    | true =>
     have hB:bareB (nat zs)=false:=by
      cases hB:bareB (nat zs) with
      | true=>exact absurd (hiff.2 (.inr ⟨hl,hB⟩)) hs
      | false=>rfl
     rw [hl] at hs
     exact (pnew_no2 v zs M true w hr hok hz hF rfl hB).mono fun e w' ⟨he,hb⟩=>⟨fun h=>absurd ho h,fun _ _=>he,fun _ h=>absurd h hs,hb⟩
  ·exact (pnew_lens v zs most loose w hr hok (decide_eq_false hz)).mono fun e w' ⟨he,hw⟩=>by subst he hw;exact pnewPost.bad (fun h=>hz h.2)
 ·obtain ⟨a,cap,rfl,_⟩:=hr
  exact (pnew_args a zs.length cap most loose w hok).mono fun e w' ⟨he,hw⟩=>by subst he hw;exact pnewPost.bad (fun h=>hok h.1)
end
section
open Go.RowKit
section
variable {ls:List Nat} {w:World} {cp lo hi wg g cap N base:Nat} {A B S:Nat→Nat} {H:Nat→Bool} {ix ky:Nat→Nat}
theorem CodeAt.c0 (h:CodeAt ls w cp lo hi wg g cap N base A B S H ix ky):w.cell? ⟨cp,0,none⟩=some (.bool true):=by simp [World.cell?,h.blk]
theorem CodeAt.c1 (h:CodeAt ls w cp lo hi wg g cap N base A B S H ix ky):w.cell? ⟨cp,1,none⟩=some (.slice (some ⟨wg,0,none⟩) ls.length ls.length):=by simp [World.cell?,h.blk]
theorem CodeAt.c2 (h:CodeAt ls w cp lo hi wg g cap N base A B S H ix ky):w.cell? ⟨cp,2,none⟩=some (.slice (some ⟨g,0,none⟩) N cap):=by simp [World.cell?,h.blk]
end
theorem cgood_yes (cp:Nat) (w:World) (h:w.cell? ⟨cp,0,none⟩=some (.bool true)):Calls Tryz.prog 140 #[.pointer (some ⟨cp,0,none⟩)] w fun e w'=>e=.returned (.bool true)∧w'=w:=by
 go_enter Tryz.func140,Tryz.ntmps140
 go_wp2
 go_ret
 exact ⟨rfl,rfl⟩
theorem below_drewN {B:Nat} {a w:World} (h:Below B a w) (n:Nat):Below B a (w.drewN n):=⟨h.os,h.tape,h.output,h.size,h.block⟩
end
namespace W4
open Go.RowKit
theorem word_ok (ls:List Nat) (cp lo hi s:Nat) (w:World) (h:Code ls w cp lo hi) (hs:s<ls.length) (h0:0<Canon.ln ls s) :
  Calls Tryz.prog 109 #[.pointer (some ⟨cp,0,none⟩),.int .i64 (s:Int)] w fun e w'=>e=.returned (.tuple #[.int .u32 (Canon.wd ls s:Int),.int .i64 (Canon.ln ls s:Int),.int .i64 0])∧Below w.heap.size w w':=by
 obtain ⟨wg,g,cap,N,base,A,B,S,H,ix,ky,h⟩:=h
 have c0:=h.c0
 have c1:=h.c1
 have k1:=h.words.word s hs
 have k2:=h.words.len s hs
 rw [show wdz ls s=Canon.wd ls s from if_neg (by omega)] at k1
 obtain ⟨n,hn⟩:∃ n,n=ls.length:=⟨_,rfl⟩
 obtain ⟨W,hW⟩:∃ W,W=Canon.wd ls s:=⟨_,rfl⟩
 obtain ⟨L,hL⟩:∃ L,L=Canon.ln ls s:=⟨_,rfl⟩
 rw [← hn] at c1 hs
 rw [← hW] at k1 ⊢
 rw [← hL] at k2 h0 ⊢
 clear h hn hW hL
 have hsn:(s:Int)<(n:Int):=by omega
 have hs0:¬ (s:Int)<0:=by omega
 have hL0:((L:Int) == 0)=false:=by simp;omega
 go_enter Tryz.func109,Tryz.ntmps109
 go_wp2_with (go_at_call 140;refine (cgood_yes _ _ (by assumption)).mono ?_;rintro e w' ⟨rfl,rfl⟩)
 go_quiet (fail)
 go_wp2
 go_ret3
 exact ⟨rfl,below_drewN ((Below.refl _ _).alloc (Nat.le_refl _) _) _⟩
end W4
namespace W4
open Go.RowKit Mth
structure WOk (w:World) (pb:Nat) (high:Bool) (v:Value) (m:Nat) (L:List Bool) (f:Nat):Prop where
 blk:w.heap[pb]?=some (.cells #[.bool true,.bool high,v,.int .i64 (f:Int)] 52 (0,0))
 row:w.ownsRow (pb+1) 5 1 v m ((pk high m L).map bv)
 len:L.length+f=8*m
structure Chg (pb:Nat) (v0:Value) (w0:World) (v:Value) (w:World):Prop where
 os:w.os=w0.os
 tape:w.tape=w0.tape
 output:w.output=w0.output
 size:w0.heap.size≤w.heap.size
 keep:∀ k,k<w0.heap.size→k≠pb→v0.ownBlock≠some k→w.heap[k]?=w0.heap[k]?
 lies:v.ownBlock=v0.ownBlock∨∃ g,v.ownBlock=some g∧w0.heap.size≤g
theorem Chg.refl (pb:Nat) (v:Value) (w:World):Chg pb v w v w:=⟨rfl,rfl,rfl,Nat.le_refl _,fun _ _ _ _=>rfl,.inl rfl⟩
theorem Chg.trans {pb:Nat} {v0 v1 v2:Value} {w0 w1 w2:World} (h:Chg pb v0 w0 v1 w1) (k:Chg pb v1 w1 v2 w2):Chg pb v0 w0 v2 w2 where
 os:=k.os.trans h.os
 tape:=k.tape.trans h.tape
 output:=k.output.trans h.output
 size:=Nat.le_trans h.size k.size
 keep:=fun b hb hne hv=>by
  have hs:=h.size
  rw [k.keep b (by omega) hne (by
   rcases h.lies with e | ⟨g,e,hg⟩
   ·rw [e];exact hv
   ·rw [e];intro c;injection c with c;omega),h.keep b hb hne hv]
 lies:=by
  have hs:=h.size
  rcases k.lies with e | ⟨g,e,hg⟩
  ·rw [e];exact h.lies
  ·exact .inr ⟨g,e,by omega⟩
theorem WOk.c0 {w:World} {pb:Nat} {high:Bool} {v:Value} {m:Nat} {L:List Bool} {f:Nat} (h:WOk w pb high v m L f):w.cell? ⟨pb,0,none⟩=some (.bool true):=by simp [World.cell?,h.blk]
theorem WOk.c1 {w:World} {pb:Nat} {high:Bool} {v:Value} {m:Nat} {L:List Bool} {f:Nat} (h:WOk w pb high v m L f):w.cell? ⟨pb,1,none⟩=some (.bool high):=by simp [World.cell?,h.blk]
theorem WOk.c2 {w:World} {pb:Nat} {high:Bool} {v:Value} {m:Nat} {L:List Bool} {f:Nat} (h:WOk w pb high v m L f):w.cell? ⟨pb,2,none⟩=some v:=by simp [World.cell?,h.blk]
theorem WOk.c3 {w:World} {pb:Nat} {high:Bool} {v:Value} {m:Nat} {L:List Bool} {f:Nat} (h:WOk w pb high v m L f):w.cell? ⟨pb,3,none⟩=some (.int .i64 (f:Int)):=by simp [World.cell?,h.blk]
theorem WOk.fz {w:World} {pb:Nat} {high:Bool} {v:Value} {m:Nat} {L:List Bool} {f:Nat} (h:WOk w pb high v m L f) (o:Nat):w.frozen? ⟨pb,o,none⟩=false:=by simp [World.frozen?,h.blk]
theorem WOk.lt {w:World} {pb:Nat} {high:Bool} {v:Value} {m:Nat} {L:List Bool} {f:Nat} (h:WOk w pb high v m L f):pb<w.heap.size:=by
 rcases Nat.lt_or_ge pb w.heap.size with h' | h'
 ·exact h'
 ·have:=h.blk;rw [Array.getElem?_eq_none h'] at this;cases this
theorem bv_set (l:List Nat) (i x:Nat):(l.map bv).set i (bv x)=(l.set i x).map bv:=by rw [List.map_set]
theorem WOk.grown {wr w1:World} {pb:Nat} {high:Bool} {v:Value} {m:Nat} {L:List Bool} {f:Nat} {o:Obj} (h:WOk wr pb high v m L f) (hg:(wr.alloc o).grownBy w1 v.ownBlock) :
  w1.cell? ⟨pb,1,none⟩=some (.bool high)∧w1.cell? ⟨pb,2,none⟩=some v∧w1.cell? ⟨pb,3,none⟩=some (.int .i64 (f:Int))∧w1.frozen? ⟨pb,2,none⟩=false∧w1.frozen? ⟨pb,3,none⟩=false:=by
 have hlt:=h.lt
 have hvb:v.ownBlock≠some pb:=fun e=>by have:=(h.row.lt pb e).1;omega
 have hbk:w1.heap[pb]?=some (.cells #[.bool true,.bool high,v,.int .i64 (f:Int)] 52 (0,0)):=by
  rw [hg.block pb (by simp;omega) (fun e=>hvb e.symm),Below.heap_alloc _ _ _ hlt];exact h.blk
 simp [World.cell?,World.frozen?,hbk]
theorem WOk.grow {wr w1:World} {pb:Nat} {high:Bool} {v:Value} {m g cap:Nat} {L:List Bool} (h:WOk wr pb high v m L 0) (o:Obj)
  (hown:w1.ownsRow (pb+1) 5 1 (.slice (some ⟨g,0,none⟩) (m+1) cap) (m+1) ((pk high m L).map bv++[.int .u8 0])) (hg:(wr.alloc o).grownBy w1 v.ownBlock) (hat:v.ownBlock=some g∨g=wr.heap.size+1) :
  WOk ((w1.setCell ⟨pb,2,none⟩ (.slice (some ⟨g,0,none⟩) (m+1) cap)).setCell ⟨pb,3,none⟩ (.int .i64 8)) pb high (.slice (some ⟨g,0,none⟩) (m+1) cap) (m+1) L 8 ∧
  Chg pb v wr (.slice (some ⟨g,0,none⟩) (m+1) cap) ((w1.setCell ⟨pb,2,none⟩ (.slice (some ⟨g,0,none⟩) (m+1) cap)).setCell ⟨pb,3,none⟩ (.int .i64 8)):=by
 have hlt:=h.lt
 have hvb:v.ownBlock≠some pb:=fun e=>by have:=(h.row.lt pb e).1;omega
 have hgp:g≠pb:=by
  rcases hat with e | e
  ·have:=(h.row.lt g e).1;omega
  ·omega
 have hbk:w1.heap[pb]?=some (.cells #[.bool true,.bool high,v,.int .i64 0] 52 (0,0)):=by
  rw [hg.block pb (by simp;omega) (fun e=>hvb e.symm),Below.heap_alloc _ _ _ hlt];exact h.blk
 refine ⟨⟨?_,?_,?_⟩,?_⟩
 ·have h2:=heap_setCell_same w1 pb 2 _ _ (.slice (some ⟨g,0,none⟩) (m+1) cap) hbk
  rw [heap_setCell_same _ pb 3 _ _ _ h2]
  simp
 ·obtain ⟨hl,hr⟩:=hown
  refine ⟨by simp [pk_length],?_⟩
  rcases hr with ⟨e,_⟩ | ⟨g',cap',cur,e,hb,hh,hn,hc,hs,ht⟩
  ·cases e
  ·injection e with e1 e2 e3
   injection e1 with e1
   injection e1 with e1
   subst e1 e3
   refine .inr ⟨g,cap,cur,rfl,hb,?_,hn,hc,hs,?_⟩
   ·rw [heap_setCell_other _ _ _ _ (by exact hgp),heap_setCell_other _ _ _ _ (by exact hgp)];exact hh
   ·rw [ht,pk_succ_beyond high L m (by have:=h.len;omega)];simp [bv]
 ·have:=h.len;omega
 ·refine ⟨hg.os,hg.tape,hg.output,?_,?_,?_⟩
  ·have:=hg.size;simp at this ⊢;omega
  ·intro k hk hne hv
   rw [heap_setCell_other _ _ _ _ (by exact hne),heap_setCell_other _ _ _ _ (by exact hne),hg.block k (by simp;omega) (fun e=>hv e.symm),Below.heap_alloc _ _ _ hk]
  ·rcases hat with e | e
   ·exact .inl e.symm
   ·exact .inr ⟨g,rfl,by omega⟩
theorem WOk.bit {wr:World} {pb:Nat} {high:Bool} {q g cap f:Nat} {L:List Bool} (h:WOk wr pb high (.slice (some ⟨g,0,none⟩) (q+1) cap) (q+1) L (f+1)) (hf:f≤7) (b:Bool) :
  WOk ((wr.setCell ⟨g,q,none⟩ (bv (octet high L q ||| (b.toNat <<< rk high 8 (7 - f))))).setCell ⟨pb,3,none⟩ (.int .i64 (f:Int))) pb high (.slice (some ⟨g,0,none⟩) (q+1) cap) (q+1) (L++[b]) f ∧
  Chg pb (.slice (some ⟨g,0,none⟩) (q+1) cap) wr (.slice (some ⟨g,0,none⟩) (q+1) cap) ((wr.setCell ⟨g,q,none⟩ (bv (octet high L q ||| (b.toNat <<< rk high 8 (7 - f))))).setCell ⟨pb,3,none⟩ (.int .i64 (f:Int))):=by
 have hlt:=h.lt
 have hgp:g≠pb:=by have:=(h.row.lt g rfl).1;omega
 have hll:=h.len
 refine ⟨⟨?_,?_,?_⟩,?_⟩
 ·rw [heap_setCell_same _ pb 3 #[.bool true,.bool high,.slice (some ⟨g,0,none⟩) (q+1) cap,.int .i64 ((f+1:Nat):Int)] 52 _ (by rw [heap_setCell_other _ _ _ _ (by exact hgp.symm)];exact h.blk)]
  simp
 ·obtain ⟨hl,hr⟩:=h.row
  refine ⟨by simp [pk_length],?_⟩
  rcases hr with ⟨e,_⟩ | ⟨g',cap',cur,e,hb,hh,hn,hc,hs,ht⟩
  ·cases e
  ·injection e with e1 e2 e3
   injection e1 with e1
   injection e1 with e1
   subst e1 e3
   refine .inr ⟨g,cap,cur.setIfInBounds q (bv (octet high L q ||| (b.toNat <<< rk high 8 (7 - f)))),rfl,hb,?_,hn,hc,?_,?_⟩
   ·rw [heap_setCell_other _ _ _ _ (by exact hgp),heap_setCell_same _ g q cur 5 _ hh]
   ·simpa using hs
   ·rw [pk_append_one high L b q (7 - f) (by omega) (by omega),← bv_set,← ht]
    simp [List.take_set]
 ·simp;omega
 ·refine ⟨rfl,rfl,rfl,?_,?_,.inl rfl⟩
  ·simp
  ·intro k hk hne hv
   have hv':k≠g:=fun e=>hv (by rw [e];rfl)
   rw [heap_setCell_other _ _ _ _ (by exact hne),heap_setCell_other _ _ _ _ (by exact hv')]
theorem WOk.last {wr:World} {pb:Nat} {high:Bool} {q g cap f:Nat} {L:List Bool} (h:WOk wr pb high (.slice (some ⟨g,0,none⟩) (q+1) cap) (q+1) L f) :
  wr.cell? ⟨g,q,none⟩=some (.int .u8 (octet high L q:Int)):=by
 have:=h.row.cells (g:=g) rfl q (bv (octet high L q)) (by rw [List.getElem?_map,pk_get high (q+1) L q (by omega)];rfl)
 have e:(⟨g,0,none⟩:Addr).add q=⟨g,q,none⟩:=by by_cases hq:q=0 <;> simp [Addr.add,hq]
 rw [e] at this
 exact this
theorem WOk.lastfz {wr:World} {pb:Nat} {high:Bool} {q g cap f:Nat} {L:List Bool} (h:WOk wr pb high (.slice (some ⟨g,0,none⟩) (q+1) cap) (q+1) L f) :
  wr.frozen? ⟨g,q,none⟩=false∧g≠pb∧g<wr.heap.size∧(q:Int)+1≤cap∧(cap:Int)≤9223372036854775807:=by
 have hb:=(h.row.lt g rfl)
 obtain ⟨hl,hr⟩:=h.row
 rcases hr with ⟨e,_⟩ | ⟨g',cap',cur,e,hb',hh,hn,hc,hs,ht⟩
 ·cases e
 ·injection e with e1 e2 e3
  injection e1 with e1
  injection e1 with e1
  subst e1 e3
  unfold maxLen at hc
  exact ⟨by simp [World.frozen?,hh],by omega,by omega,by omega,by omega⟩
theorem bit_val (V r:Nat) (hr:r<64):bits .and .u8 ((V:Int) / 2 ^ min r 64 % 256) 1=((V.testBit r).toNat:Int):=by
 rw [Nat.min_eq_left (by omega),show ((V:Int) / 2 ^ r % 256)=((V / 2 ^ r % 256:Nat):Int) by simp]
 have h:=u8_and_nat (V / 2 ^ r % 256) 1 (Nat.mod_lt _ (by decide)) (by decide)
 rw [Nat.and_one_is_mod,← Nat.shiftRight_eq_div_pow,shift_and_one] at h
 rw [← Nat.shiftRight_eq_div_pow]
 exact h
theorem or_val (B r:Nat) (bt:Bool) (hB:B<256) (hr:r<8):bits .or .u8 (B:Int) ((bt.toNat:Int)*2 ^ min r 8 % 256)=((B ||| (bt.toNat <<< r):Nat):Int):=by
 have h2:bt.toNat*2 ^ r<256:=by
  have h3:bt.toNat≤1:=Bool.toNat_le bt
  have h4:2 ^ r≤2 ^ 7:=Nat.pow_le_pow_right (by decide) (by omega)
  have h5:=Nat.mul_le_mul h3 h4
  omega
 rw [Nat.min_eq_left (by omega),show (bt.toNat:Int)*2 ^ r % 256=((bt.toNat*2 ^ r % 256:Nat):Int) by simp,Nat.mod_eq_of_lt h2,u8_or_nat B _ hB h2,Nat.shiftLeft_eq]
theorem WOk.drew {w:World} {pb:Nat} {high:Bool} {v:Value} {m:Nat} {L:List Bool} {f:Nat} (h:WOk w pb high v m L f):WOk w.drew pb high v m L f:=⟨h.blk,h.row.drew,h.len⟩
theorem Chg.drew {pb:Nat} {v0 v:Value} {w0 w:World} (h:Chg pb v0 w0 v w):Chg pb v0 w0 v w.drew:=⟨h.os,h.tape,h.output,h.size,h.keep,h.lies⟩
theorem WOk.bitAt {wr:World} {pb:Nat} {high:Bool} {q g cap f V N k:Nat} {L:List Bool} (h:WOk wr pb high (.slice (some ⟨g,0,none⟩) (q+1) cap) (q+1) (L++(bitsOf high V N).take k) (f+1)) (hf:f≤7) (hk:k<N) (x:Int)
  (hx:x=bits .or .u8 (octet high (L++(bitsOf high V N).take k) q:Int) (((V.testBit (rk high N k)).toNat:Int)*2 ^ min (rk high 8 (7 - f)) 8 % 256)) :
  WOk ((wr.setCell ⟨g,q,none⟩ (.int .u8 x)).setCell ⟨pb,3,none⟩ (.int .i64 (f:Int))).drew pb high (.slice (some ⟨g,0,none⟩) (q+1) cap) (q+1) (L++(bitsOf high V N).take (k+1)) f ∧
  Chg pb (.slice (some ⟨g,0,none⟩) (q+1) cap) wr (.slice (some ⟨g,0,none⟩) (q+1) cap) ((wr.setCell ⟨g,q,none⟩ (.int .u8 x)).setCell ⟨pb,3,none⟩ (.int .i64 (f:Int))).drew:=by
 have h2:=h.bit hf (V.testBit (rk high N k))
 rw [hx,or_val _ _ _ (octet_lt _ _ _) (rk_lt (by omega)),bitsOf_take_succ high V N k hk,← List.append_assoc]
 exact ⟨h2.1.drew,h2.2.drew⟩
end W4
namespace W4
open Go.RowKit Mth
attribute [local go_sem ↓] wp_at_zero wp_at_succ
theorem fill_any (pb m f:Nat) (high:Bool) (v0:Value) (L:List Bool) (V N:Nat) (w:World) (hw:WOk w pb high v0 m L f) (hf:f≤7) (hN:N≤64) (hb:L.length+N≤1000000000000000) :
  Calls Tryz.prog 78 #[.pointer (some ⟨pb,0,none⟩),.int .u64 (V:Int),.int .i64 (N:Int)] w fun e w'=>e=.returned (.tuple #[])∧∃ v' m' f',WOk w' pb high v' m' (L++bitsOf high V N) f'∧f'≤7∧Chg pb v0 w v' w':=by
 obtain ⟨i0,hi,hz0,hz1,hz2⟩:=info_parts info5
 go_enter Tryz.func78,Tryz.ntmps78
 go_wp2
 go_step3
 go_wp2
 go_step3
 go_wp2
 go_loopg [6] N (fun gk d wr=>∃ k v m f,gk=N - k∧k≤N∧d=.int .i64 (k:Int)∧WOk wr pb high v m (L++(bitsOf high V N).take k) f∧f≤7∧Chg pb v0 w v wr)
 case atStart=>exact ⟨0,v0,m,f,by omega,by omega,rfl,by simpa using hw,hf,Chg.refl _ _ _⟩
 case round =>
  obtain ⟨k,v,m,f,rfl,hk,rfl,hok,hf7,hch⟩:=hrel
  by_cases hlt:k<N
  ·have c0:=hok.c0
   have c1:=hok.c1
   have c2:=hok.c2
   have c3:=hok.c3
   have f2:=hok.fz 2
   have f3:=hok.fz 3
   by_cases h0:f=0
   ·subst h0
    have HOK:Hid (WOk wr pb high v m (L++(bitsOf high V N).take k) 0):=hok
    have HCH:Hid (Chg pb v0 w v wr):=hch
    clear hok hch hw
    have hrow:=qz (HOK.out.row.alloc (.cells #[.int .u8 0] 5))
    have hnews:Hid (∀ j u,[Value.int .u8 0][j]?=some u→(wr.alloc (.cells #[.int .u8 0] 5)).cell? ((⟨wr.heap.size,0,none⟩:Addr).add j)=some u):=by
     intro j u hj
     match j,hj with
     | 0,hj=>simp at hj;subst hj;simp [Addr.add]
    have hlen:=qz HOK.out.len
    have hlt':=HOK.out.lt
    have hm63:(m:Int)≤1000000000000000:=by have:=HOK.out.len;simp [bitsOf_length] at this;omega
    go_wp2_with (at_builtin;go_must (refine wpList_append_lies _ rfl (.tmp 21) (.tmp 22) 22 rfl (pb+1) 5 i0 (.int .u8 0) 1 1 Tryz.underlying22 hi hz0 hz1 hz2 rfl (by decide) v m _ (by rfl) (uh hrow) ⟨wr.heap.size,0,none⟩ 1 1 [.int .u8 0] (by rfl) rfl (uh hnews) (by intro u hu;simp at hu;subst hu;rfl) (by omega) (by have:=uh hlen;simp [bitsOf_length] at this;unfold maxLen;omega) (by have:=uh hlen;simp [bitsOf_length] at this;omega) (by simp;omega) (wr.heap.size+1) (by simp) ?_;intro g cap w1 hown hgrow hat hglt;obtain ⟨d1,d2,d3,e2,e3⟩:=HOK.out.grown hgrow;have HG:=qz (HOK.out.grow _ hown hgrow hat);clear hown hgrow hat hglt c0 c1 c2 c3 f2 f3))
    obtain ⟨hok2,hch2⟩:=uh HG
    have hch3:=(uh HCH).trans hch2
    have hq63:=hok2.lastfz.2.2.2
    clear HG hch2 HOK HCH hrow hnews
    generalize hW2:(w1.setCell ⟨pb,2,none⟩ (.slice (some ⟨g,0,none⟩) (m+1) cap)).setCell ⟨pb,3,none⟩ (.int .i64 8)=W2 at hok2 hch3
    clear hW2 d1 d2 d3 e2 e3
    have HOK:=qz hok2
    have HCH:=qz hch3
    clear hok2 hch3
    go_loopg [6,39] 8 (fun gj d c ws=>∃ j,gj=8 - j∧j≤8∧k+j<N∧d=.int .i64 ((k+j:Nat):Int)∧c=.int .i64 (j:Int)∧WOk ws pb high (.slice (some ⟨g,0,none⟩) (m+1) cap) (m+1) (L++(bitsOf high V N).take (k+j)) (8 - j)∧Chg pb v0 w (.slice (some ⟨g,0,none⟩) (m+1) cap) ws)
    case atStart=>exact ⟨0,by omega,by omega,by omega,rfl,rfl,HOK.out,HCH.out⟩
    case round =>
     obtain ⟨j,rfl,hj,hkj,rfl,rfl,ok,ch⟩:=hrel
     clear HOK HCH
     by_cases hjf:j<8
     ·obtain ⟨f',hf'⟩:∃ f',8 - j=f'+1:=⟨8 - j - 1,by omega⟩
      have hf'':=qz hf'
      have hf8:f'≤7:=by omega
      rw [hf'] at ok
      clear hf'
      have hrl:=rk_lt (high:=high) hkj
      have c1:=ok.c1
      have c2:=ok.c2
      have c3:=ok.c3
      have cl:=ok.last
      have hoc:=octet_lt high (L++(bitsOf high V N).take (k+j)) m
      obtain ⟨fl,hgp,hgs,hqc,hcap⟩:=ok.lastfz
      have f3:=ok.fz 3
      go_wp2_with (go_at_call 74;go_must (refine (rank_any _ _ _ _ (by omega) (by omega) (by omega)).mono ?_;rintro e w' ⟨rfl,rfl⟩))
      rw [bit_val V (rk high N (k+j)) (by omega)]
      have HF:=qz (fun x hx=>ok.bitAt hf8 hkj x hx)
      have HCH:=qz ch
      clear ok ch
      generalize hB:octet high (L++(bitsOf high V N).take (k+j)) m=B at cl hoc HF
      generalize hbt:V.testBit (rk high N (k+j))=bt at HF
      clear hB hbt
      have hwr:IntKind.i64.wrap (8 - ((f':Int)+1))=((7 - f':Nat):Int):=by rw [IntWalk.i64_in _ (by omega)];omega
      have hq1:(m:Int)<(m:Int)+1:=by omega
      refine wp_tail 21 (by kernel_rfl) (by kernel_rfl) ?_
      simp only [List.take_succ_cons,List.take_zero,List.drop_succ_cons,List.drop_zero]
      repeat (first | still_call (rank_any _ _ _ _ (by omega) (by omega) (by omega)) | still_step)
      try refine wpStill_nil ?_
      go_wp2
      ·have hne:((k:Int)+j+1 == N)=true:=by assumption
       have hne':N=k+j+1:=by simp at hne;omega
       have R:=uh HF _ rfl
       rw [Exit.noGoto_normal]
       go_end0
       refine ⟨rfl,_,m+1,f',?_,?_,(uh HCH).trans R.2⟩
       ·have R1:=R.1
        rw [← hne',List.take_of_length_le (by rw [bitsOf_length];omega)] at R1
        exact R1
       ·have:=uh hf'';omega
      ·have hne:((k:Int)+j+1 == N)=false:=by assumption
       have hne':k+j+1≠N:=by simp at hne;omega
       go_roundg (8 - (j+1))
       case measure=>omega
       case rel => 
        have R:=uh HF _ rfl
        exact ⟨j+1,by have:=uh hf'';omega,by omega,by omega,by go_num,by go_num,by rw [show 8 - (j+1)=f' by have:=uh hf'';omega];exact R.1,(uh HCH).trans R.2⟩
     ·have hjf':j=8:=by omega
      subst hjf'
      go_wp2
      go_roundg (N - (k+8))
      case measure=>omega
      case rel=>exact ⟨k+8,_,m+1,0,rfl,by omega,by go_num,by simpa using ok,by omega,ch⟩
   ·obtain ⟨q,rfl⟩:∃ q,m=q+1:=⟨m - 1,by have:=hok.len;omega⟩
    obtain ⟨g,cap,rfl⟩:∃ g cap,v=.slice (some ⟨g,0,none⟩) (q+1) cap:=by
     rcases hok.row.2 with ⟨_,e⟩ | ⟨g,cap,_,e,_⟩
     ·omega
     ·exact ⟨g,cap,e⟩
    have h0':((f:Int) == 0)=false:=by simp;omega
    have hq63:=hok.lastfz.2.2.2
    have HOK:Hid (WOk wr pb high (.slice (some ⟨g,0,none⟩) (q+1) cap) (q+1) (L++(bitsOf high V N).take k) f):=hok
    have HCH:Hid (Chg pb v0 w (.slice (some ⟨g,0,none⟩) (q+1) cap) wr):=hch
    clear hok hch hw
    go_wp2
    go_loopg [6,39] f (fun gj d c ws=>∃ j,gj=f - j∧j≤f∧k+j<N∧d=.int .i64 ((k+j:Nat):Int)∧c=.int .i64 (j:Int)∧WOk ws pb high (.slice (some ⟨g,0,none⟩) (q+1) cap) (q+1) (L++(bitsOf high V N).take (k+j)) (f - j)∧Chg pb v0 w (.slice (some ⟨g,0,none⟩) (q+1) cap) ws)
    case atStart=>exact ⟨0,by omega,by omega,by omega,rfl,rfl,HOK.out,HCH.out⟩
    case round =>
     obtain ⟨j,rfl,hj,hkj,rfl,rfl,ok,ch⟩:=hrel
     clear HOK HCH c0 c1 c2 c3 f2 f3
     by_cases hjf:j<f
     ·obtain ⟨f',hf'⟩:∃ f',f - j=f'+1:=⟨f - j - 1,by omega⟩
      have hf'':=qz hf'
      have hf8:f'≤7:=by omega
      rw [hf'] at ok
      clear hf'
      have hrl:=rk_lt (high:=high) hkj
      have c1:=ok.c1
      have c2:=ok.c2
      have c3:=ok.c3
      have cl:=ok.last
      have hoc:=octet_lt high (L++(bitsOf high V N).take (k+j)) q
      obtain ⟨fl,hgp,hgs,hqc,hcap⟩:=ok.lastfz
      have f3:=ok.fz 3
      go_wp2_with (go_at_call 74;go_must (refine (rank_any _ _ _ _ (by omega) (by omega) (by omega)).mono ?_;rintro e w' ⟨rfl,rfl⟩))
      rw [bit_val V (rk high N (k+j)) (by omega)]
      have HF:=qz (fun x hx=>ok.bitAt hf8 hkj x hx)
      have HCH:=qz ch
      clear ok ch
      generalize hB:octet high (L++(bitsOf high V N).take (k+j)) q=B at cl hoc HF
      generalize hbt:V.testBit (rk high N (k+j))=bt at HF
      clear hB hbt
      have hwr:IntKind.i64.wrap (8 - ((f':Int)+1))=((7 - f':Nat):Int):=by rw [IntWalk.i64_in _ (by omega)];omega
      have hq1:(q:Int)<(q:Int)+1:=by omega
      refine wp_tail 21 (by kernel_rfl) (by kernel_rfl) ?_
      simp only [List.take_succ_cons,List.take_zero,List.drop_succ_cons,List.drop_zero]
      repeat (first | still_call (rank_any _ _ _ _ (by omega) (by omega) (by omega)) | still_step)
      try refine wpStill_nil ?_
      go_wp2
      ·have hne:((k:Int)+j+1 == N)=true:=by assumption
       have hne':N=k+j+1:=by simp at hne;omega
       have R:=uh HF _ rfl
       rw [Exit.noGoto_normal]
       go_end0
       refine ⟨rfl,_,q+1,f',?_,?_,(uh HCH).trans R.2⟩
       ·have R1:=R.1
        rw [← hne',List.take_of_length_le (by rw [bitsOf_length];omega)] at R1
        exact R1
       ·have:=uh hf'';omega
      ·have hne:((k:Int)+j+1 == N)=false:=by assumption
       have hne':k+j+1≠N:=by simp at hne;omega
       go_roundg (f - (j+1))
       case measure=>omega
       case rel => 
        have R:=uh HF _ rfl
        exact ⟨j+1,by have:=uh hf'';omega,by omega,by omega,by go_num,by go_num,by rw [show f - (j+1)=f' by have:=uh hf'';omega];exact R.1,(uh HCH).trans R.2⟩
     ·have hjf':j=f:=by omega
      subst hjf'
      go_wp2
      go_roundg (N - (k+j))
      case measure=>omega
      case rel=>exact ⟨k+j,_,q+1,0,rfl,by omega,by go_num,by simpa using ok,by omega,ch⟩
  ·go_wp2
   rw [Exit.noGoto_normal]
   go_end0
   refine ⟨rfl,v,m,f,?_,hf7,hch⟩
   have R1:=hok
   rw [List.take_of_length_le (by rw [bitsOf_length];omega)] at R1
   exact R1
end W4
namespace W4
open Go.RowKit Mth
theorem good_yes (pb:Nat) (w:World) (h:w.cell? ⟨pb,0,none⟩=some (.bool true)) :
  Calls Tryz.prog 31 #[.pointer (some ⟨pb,0,none⟩)] w fun e w'=>e=.returned (.bool true)∧w'=w:=by
 go_enter Tryz.func31,Tryz.ntmps31
 go_wp2
 go_ret
 exact ⟨rfl,rfl⟩
theorem new_any (high:Bool) (w:World) :
  Calls Tryz.prog 9 #[.bool high] w fun e w'=>e=.returned (.pointer (some ⟨w.heap.size,0,none⟩))∧w'=w.alloc (.cells #[.bool true,.bool high,.slice none 0 0,.int .i64 0] 52):=by
 go_enter Tryz.func9,Tryz.ntmps9
 go_wp2
 go_ret
 exact ⟨rfl,rfl⟩
theorem new_ok (high:Bool) (w:World):WOk (w.alloc (.cells #[.bool true,.bool high,.slice none 0 0,.int .i64 0] 52)) w.heap.size high (.slice none 0 0) 0 [] 0 :=
 ⟨heap_alloc_new w _,by simpa [pk] using World.ownsRow_nil _ _ _ _,rfl⟩
theorem shr_zero (V N:Nat) (h:V<2 ^ N):((V:Int) / 2 ^ N != 0)=false:=by
 rw [show ((V:Int) / 2 ^ N)=((V / 2 ^ N:Nat):Int) by simp,Nat.div_eq_of_lt h]
 rfl
theorem put_ok (pb m f:Nat) (high:Bool) (v0:Value) (L:List Bool) (V n:Int) (w:World) (hw:WOk w pb high v0 m L f) (hf:f≤7) (hn0:0≤n) (hn:n≤64) (hV0:0≤V) (hV:V.toNat<2 ^ n.toNat) (hb:L.length+n.toNat≤1000000000000000) :
  Calls Tryz.prog 53 #[.pointer (some ⟨pb,0,none⟩),.int .u64 V,.int .i64 n] w fun e w'=>e=.returned (.int .i64 0)∧∃ v' m' f',WOk w' pb high v' m' (L++bitsOf high V.toNat n.toNat) f'∧f'≤7∧Chg pb v0 w v' w':=by
 obtain ⟨V,rfl⟩:=Int.eq_ofNat_of_zero_le hV0
 obtain ⟨N,rfl⟩:=Int.eq_ofNat_of_zero_le hn0
 simp only [Int.toNat_natCast] at *
 have hsh:=shr_zero V N hV
 have hN0:decide ((N:Int)<0)=false:=by simp
 have hN1:decide (64<(N:Int))=false:=by simp;omega
 have c0:=hw.c0
 have HW:=qz hw
 clear hw hV
 go_enter Tryz.func53,Tryz.ntmps53
 go_wp2_with (first | (go_at_call 31;refine (good_yes _ _ (by assumption)).mono ?_;rintro e w' ⟨rfl,rfl⟩) | (go_at_call 78;go_must (refine (fill_any pb m f high v0 L V N _ (uh HW) hf (by omega) hb).mono ?_;rintro e w' ⟨rfl,hq⟩;have HQ:=qz hq;clear hq)))
 go_ret
 exact ⟨rfl,uh HQ⟩
theorem len_ok (pb m f:Nat) (high:Bool) (v0:Value) (L:List Bool) (w:World) (hw:WOk w pb high v0 m L f) (hb:L.length≤1000000000000000) (hf:f≤7) :
  Calls Tryz.prog 66 #[.pointer (some ⟨pb,0,none⟩)] w fun e w'=>e=.returned (.int .i64 (L.length:Int))∧∃ n,w'=w.drewN n:=by
 have c0:=hw.c0
 have c2:=hw.c2
 have c3:=hw.c3
 have hl:=hw.len
 obtain ⟨a,c,e⟩:∃ a c,v0=.slice a m c:=by
  rcases hw.row.2 with ⟨e,e'⟩ | ⟨g,cap,_,e,_⟩
  ·exact ⟨_,0,by rw [e,e']⟩
  ·exact ⟨_,_,e⟩
 have hlz:(L.length:Int)=8*(m:Int) - f:=by omega
 rw [hlz]
 clear hlz
 subst e
 have hm:(m:Int)≤1000000000000000:=by omega
 clear hl hw
 go_enter Tryz.func66,Tryz.ntmps66
 go_wp2_with (first | (go_at_call 31;refine (good_yes _ _ (by assumption)).mono ?_;rintro e w' ⟨rfl,rfl⟩))
 go_quiet (fail)
 go_wp2
 go_ret
 exact ⟨rfl,nq,rfl⟩
theorem WOk.reads {w:World} {pb:Nat} {high:Bool} {v:Value} {m:Nat} {L:List Bool} {f:Nat} (h:WOk w pb high v m L f):Reads w v (pk high m L):=by
 have hr:=h.row
 rcases hr.2 with ⟨e,e'⟩ | ⟨g,cap,cur,e,_⟩
 ·refine ⟨none,0,?_,fun h0=>?_⟩
  ·rw [e,pk_length,e']
  ·rw [pk_length,e'] at h0;omega
 ·refine ⟨some ⟨g,0,none⟩,cap,by rw [e,pk_length],fun _=>⟨_,rfl,?_⟩⟩
  exact hr.cells (by rw [e];rfl)
theorem bytes_ok (pb m f:Nat) (high:Bool) (v0:Value) (L:List Bool) (w:World) (hw:WOk w pb high v0 m L f) (hb:m≤140737488355328) :
  Calls Tryz.prog 13 #[.pointer (some ⟨pb,0,none⟩)] w fun e w'=>e=.returned (.slice (some ⟨w.heap.size,0,none⟩) m m)∧w'.heap[w.heap.size]?=some (.cells ((pk high m L).map bv).toArray 5 (0,0))∧Below w.heap.size w w':=by
 have c0:=hw.c0
 have c2:=hw.c2
 have HR:=qz hw.reads
 have hl:=pk_length high m L
 generalize pk high m L=zs at HR hl
 subst hl
 clear hw
 go_enter Tryz.func13,Tryz.ntmps13
 go_wp2_with (first | (go_at_call 31;refine (good_yes _ _ (by assumption)).mono ?_;rintro e w' ⟨rfl,rfl⟩) | (go_at_call 32;go_must (refine (fresh_any _ zs _ (uh HR) hb).mono ?_;rintro e w1 ⟨rfl,h1,h2⟩;have H1:=qz h1;have H2:=qz h2;clear h1 h2)))
 go_ret
 exact ⟨rfl,uh H1,uh H2⟩
theorem WOk.keep {w w':World} {pb:Nat} {high:Bool} {v:Value} {m:Nat} {L:List Bool} {f:Nat} (h:WOk w pb high v m L f) (h1:w'.heap[pb]?=w.heap[pb]?) (h2:∀ g,v.ownBlock=some g→w'.heap[g]?=w.heap[g]?):WOk w' pb high v m L f:=by
 refine ⟨by rw [h1];exact h.blk,?_,h.len⟩
 obtain ⟨hl,hr⟩:=h.row
 refine ⟨hl,?_⟩
 rcases hr with e | ⟨g,cap,cur,e,hb,hh,r⟩
 ·exact .inl e
 ·exact .inr ⟨g,cap,cur,e,hb,by rw [h2 g (by rw [e];rfl)];exact hh,r⟩
end W4
namespace W4
open Go.RowKit Mth
structure ROk (w:World) (rp:Nat) (high:Bool) (g:Nat) (zs:List Nat) (p:Nat):Prop where
 blk:w.heap[rp]?=some (.cells #[.bool true,.bool high,.slice (some ⟨g,0,none⟩) zs.length zs.length,.int .i64 (p:Int)] 136 (0,0))
 row:w.heap[g]?=some (.cells (zs.map bv).toArray 5 (0,0))
 ne:g≠rp
 le:p≤8*zs.length
 small:∀ z∈zs,z<256
section
variable {w:World} {rp:Nat} {high:Bool} {g:Nat} {zs:List Nat} {p:Nat}
end
theorem get_step (A B r R:Nat) (hr:r<8) (hR:R<64) (hA:A<2 ^ 64) (hB:B<256) :
  bits .or .u64 (A:Int) (IntKind.u64.wrap (IntKind.u64.wrap (bits .and .u8 ((B:Int) / 2 ^ min r 8) 1)*2 ^ min R 64))=((A ||| ((B.testBit r).toNat <<< R):Nat):Int):=by
 have hd:B / 2 ^ r<256:=Nat.lt_of_le_of_lt (Nat.div_le_self _ _) hB
 have h1:bits .and .u8 ((B:Int) / 2 ^ min r 8) 1=((B.testBit r).toNat:Int):=by
  rw [Nat.min_eq_left (by omega),show ((B:Int) / 2 ^ r)=((B / 2 ^ r:Nat):Int) by simp]
  have h:=u8_and_nat (B / 2 ^ r) 1 hd (by decide)
  rw [Nat.and_one_is_mod,← Nat.shiftRight_eq_div_pow,shift_one] at h
  rw [← Nat.shiftRight_eq_div_pow]
  exact h
 have h2:(B.testBit r).toNat≤1:=Bool.toNat_le _
 have h3:2 ^ R≤2 ^ 63:=Nat.pow_le_pow_right (by decide) (by omega)
 have h4:=Nat.mul_le_mul h2 h3
 rw [h1,IntWalk.u64_in ((B.testBit r).toNat:Int) (by omega),Nat.min_eq_left (by omega),show (((B.testBit r).toNat:Int)*2 ^ R)=(((B.testBit r).toNat*2 ^ R:Nat):Int) by simp,IntWalk.u64_in _ (by omega),u64_or_nat A _ (by omega) (by omega),Nat.shiftLeft_eq]
end W4
namespace W4.Nobody
open Go.ChangeShapes Go.WideShapes Go.ChangeAt Go.RowKit Go.Joins Mth
theorem own:ownKnob Tryz.prog.godebug=none:=by kernel_rfl
theorem fill_zero (pb:Nat) (w:World):Calls Tryz.prog 78 #[.pointer (some ⟨pb,0,none⟩),.int .u64 0,.int .i64 0] w fun e w'=>e=.returned (.tuple #[])∧w'=w:=by
 go_enter Tryz.func78,Tryz.ntmps78
 go_wp2
 go_step3
 go_wp2
 go_step3
 go_wp2
 go_rounds 1
 rw [Exit.noGoto_normal]
 go_end0
 exact ⟨rfl,rfl⟩
theorem put_zero (pb:Nat) (w:World) (h:w.cell? ⟨pb,0,none⟩=some (.bool true)):Calls Tryz.prog 53 #[.pointer (some ⟨pb,0,none⟩),.int .u64 0,.int .i64 0] w fun e w'=>e=.returned (.int .i64 0)∧w'=w:=by
 go_enter Tryz.func53,Tryz.ntmps53
 go_wp2_with (first | (go_at_call 31;refine (good_yes _ _ (by assumption)).mono ?_;rintro e w' ⟨rfl,rfl⟩) | (go_at_call 78;refine (fill_zero pb _).mono ?_;rintro e w' ⟨rfl,rfl⟩))
 go_ret
 exact ⟨rfl,rfl⟩
end W4.Nobody
namespace W4
open Go.RowKit Mth
theorem WOk.below {w w':World} {pb:Nat} {high:Bool} {v:Value} {m:Nat} {L:List Bool} {f:Nat} (h:WOk w pb high v m L f) (hb:Below w.heap.size w w'):WOk w' pb high v m L f :=
 h.keep (hb.block _ h.lt) (fun g hg=>hb.block _ (h.row.lt g hg).2)
theorem Chg.of_below {w w':World} {pb:Nat} {v:Value} (hb:Below w.heap.size w w'):Chg pb v w v w' :=
 ⟨hb.os,hb.tape,hb.output,hb.size,fun k hk _ _=>hb.block k hk,.inl rfl⟩
theorem bits_one (high:Bool) (W i:Nat):bitsOf high (W / 2 ^ i % 2) 1=[W.testBit i]:=by
 have h1:(W / 2 ^ i % 2).testBit 0=W.testBit i:=by
  rw [Nat.testBit_zero,Nat.testBit_eq_decide_div_mod_eq]
  simp
 have h2:rk high 1 0=0:=by cases high <;> rfl
 have:=bitsOf_take_succ high (W / 2 ^ i % 2) 1 0 (by omega)
 rw [List.take_of_length_le (by rw [bitsOf_length];omega),h2,h1] at this
 simpa using this
theorem cput_ok (ls:List Nat) (cp lo hi s pb m f:Nat) (high:Bool) (v0:Value) (L:List Bool) (w:World) (h:Code ls w cp lo hi) (hs:s<ls.length) (h0:0<Canon.ln ls s) (hw:WOk w pb high v0 m L f) (hf:f≤7) (hb:L.length+20≤1000000000000000) :
  Calls Tryz.prog 110 #[.pointer (some ⟨cp,0,none⟩),.pointer (some ⟨pb,0,none⟩),.int .i64 (s:Int)] w fun e w'=>e=.returned (.int .i64 0)∧∃ v' m' f',WOk w' pb high v' m' (L++bitsOf true (Canon.wd ls s) (Canon.ln ls s)) f'∧f'≤7∧Chg pb v0 w v' w':=by
 have hgood:Good ls:=by obtain ⟨_,_,_,_,_,_,_,_,_,_,_,hc⟩:=h;exact hc.good
 have hhas:=hgood.has hs h0
 have hl20:=hhas.2.2
 have hwd:=Canon.wd_lt hhas hgood.sum
 have HW:=qz (word_ok ls cp lo hi s w h hs h0)
 have c0:=hw.c0
 have HOK:=qz hw
 obtain ⟨W,hW⟩:∃ W,W=Canon.wd ls s:=⟨_,rfl⟩
 obtain ⟨N,hN⟩:∃ N,N=Canon.ln ls s:=⟨_,rfl⟩
 rw [← hW,← hN] at HW hwd ⊢
 rw [← hN] at h0 hl20
 have hW32:W<4294967296:=by
  have:2 ^ N≤2 ^ 20:=Nat.pow_le_pow_right (by decide) hl20
  omega
 clear h hw hgood hhas hW hN hwd hs
 go_enter Tryz.func110,Tryz.ntmps110
 go_wp2_with (first | (go_at_call 53;go_must (refine (Nobody.put_zero pb _ (by assumption)).mono ?_;rintro e w' ⟨rfl,rfl⟩)) | (go_at_call 109;go_must (refine (uh HW).mono ?_;rintro e w1 ⟨rfl,h1⟩;have HOK1:=qz ((uh HOK).below h1);have HCH1:=qz (Chg.of_below (pb:=pb) (v:=v0) h1);clear h1)))
 go_loopg [11] N (fun gk d ws=>∃ (l:Nat) (v:Value) (m f:Nat),gk=N - l∧l≤N∧d=.int .i64 ((N:Int) - 1 - (l:Int))∧WOk ws pb high v m (L++(bitsOf true W N).take l) f∧f≤7∧Chg pb v0 w' v ws)
 case atStart=>exact ⟨0,v0,m,f,by omega,by omega,by simp,by simpa using uh HOK1,hf,uh HCH1⟩
 case round =>
  obtain ⟨l,v,m,f,rfl,hl,rfl,hok,hf7,hch⟩:=hrel
  by_cases hll:l<N
  ·obtain ⟨i,hi⟩:∃ i,i+1+l=N:=⟨N - 1 - l,by omega⟩
   rw [show (N:Int) - 1 - (l:Int)=(i:Int) by omega]
   have hi0:(0:Int)≤(i:Int):=by omega
   have hi20:i<20:=by omega
   have hbit:=bit_u32 W i hW32
   obtain ⟨b,hbb⟩:∃ b,b=W / 2 ^ i % 2:=⟨_,rfl⟩
   rw [← hbb] at hbit
   have hb1:b≤1:=by omega
   have HBB:=qz hbb
   have HOK2:=qz hok
   have HCH2:=qz hch
   have HI:=qz hi
   have HLB:Hid ((L++(bitsOf true W N).take l).length+1≤1000000000000000):=qz (by simp [bitsOf_length];omega)
   clear hok hch hi hbb
   go_wp2_with (go_at_call 53;go_must (refine (put_ok pb m f high v _ (b:Int) 1 _ (uh HOK2) hf7 (by omega) (by omega) (by omega) (by simp;omega) (uh HLB)).mono ?_;rintro e w2 ⟨rfl,v2,m2,f2,h1,h2,h3⟩;have HOK3:=qz h1;have HF3:=qz h2;have HCH3:=qz ((uh HCH2).trans h3);clear h1 h2 h3))
   go_roundg (N - (l+1))
   case measure=>have:=uh HI;omega
   case rel =>
    have hI:=uh HI
    refine ⟨l+1,v2,m2,f2,rfl,by omega,by rw [show (N:Int) - 1 - ((l+1:Nat):Int)=(i:Int) - 1 by omega],?_,uh HF3,uh HCH3⟩
    have h1:=uh HOK3
    rw [Int.toNat_natCast,uh HBB,show (1:Int).toNat=1 from rfl,bits_one,List.append_assoc] at h1
    rw [bitsOf_take_succ true W N l (by omega),show rk true N l=i by simp [rk];omega]
    exact h1
  ·obtain rfl:l=N:=by omega
   rw [show (l:Int) - 1 - (l:Int) = -1 by omega]
   have HOK2:=qz hok
   have HCH2:=qz hch
   clear hok hch
   go_wp2_with fail
   go_ret
   refine ⟨rfl,v,m,f,?_,hf7,uh HCH2⟩
   have h1:=uh HOK2
   rw [List.take_of_length_le (by rw [bitsOf_length];omega)] at h1
   exact h1
end W4
namespace Mth
theorem getD_append_false (L:List Bool) (k j:Nat):(L++List.replicate k false).getD j false=L.getD j false:=by
 simp only [List.getD_eq_getElem?_getD]
 by_cases h:j<L.length
 ·rw [List.getElem?_append_left h]
 ·rw [List.getElem?_append_right (by omega),List.getElem?_eq_none (l:=L) (by omega),List.getElem?_replicate]
  split <;> rfl
theorem octet_pad (high:Bool) (L:List Bool) (k i:Nat):octet high (L++List.replicate k false) i=octet high L i:=by
 unfold octet
 congr 1
 funext r
 exact getD_append_false _ _ _
theorem pk_pad (high:Bool) (m:Nat) (L:List Bool) (k:Nat):pk high m (L++List.replicate k false)=pk high m L:=by
 unfold pk
 congr 1
 funext i
 exact octet_pad _ _ _ _
def ofBytes (high:Bool) (zs:List Nat):List Bool:=(List.range (8*zs.length)).map (bitIn high zs)
theorem ofBytes_length (high:Bool) (zs:List Nat):(ofBytes high zs).length=8*zs.length:=by simp [ofBytes]
theorem ofBytes_getD (high:Bool) (zs:List Nat) (i:Nat) (h:i<8*zs.length):(ofBytes high zs).getD i false=bitIn high zs i:=by
 simp [ofBytes,h]
theorem octet_append_ge (high:Bool) (L:List Bool) (m:Nat) (zs:List Nat) (hL:L.length=8*m) (hz:∀ z∈zs,z<256) (i:Nat) (hi:i<zs.length) :
  octet high (L++ofBytes high zs) (m+i)=zs.getD i 0:=by
 apply Nat.eq_of_testBit_eq
 intro r
 rw [octet_testBit]
 have hzi:zs.getD i 0<256:=hz _ (by rw [List.getD_eq_getElem?_getD,List.getElem?_eq_getElem hi];exact List.getElem_mem _)
 by_cases h8:r<8
 ·have h1:=rk_lt (high:=high) h8
  have e:(L++ofBytes high zs).getD (8*(m+i)+rk high 8 r) false=bitIn high zs (8*i+rk high 8 r):=by
   rw [List.getD_eq_getElem?_getD,List.getElem?_append_right (by omega),show 8*(m+i)+rk high 8 r - L.length=8*i+rk high 8 r by omega,← List.getD_eq_getElem?_getD]
   exact ofBytes_getD _ _ _ (by omega)
  rw [e]
  unfold bitIn
  rw [show (8*i+rk high 8 r) / 8=i by omega,show (8*i+rk high 8 r) % 8=rk high 8 r by omega,rk_rk h8]
  simp [h8]
 ·have:(zs.getD i 0).testBit r=false:=Nat.testBit_lt_two_pow (Nat.lt_of_lt_of_le hzi (by
   have:2 ^ 8≤2 ^ r:=Nat.pow_le_pow_right (by decide) (by omega)
   omega))
  simp [h8] at this ⊢
  exact this
theorem octet_append_lt (high:Bool) (L M:List Bool) (i:Nat) (h:8*i+8≤L.length):octet high (L++M) i=octet high L i:=by
 apply Nat.eq_of_testBit_eq
 intro r
 rw [octet_testBit,octet_testBit]
 by_cases h8:r<8
 ·have:=rk_lt (high:=high) h8
  simp only [List.getD_eq_getElem?_getD]
  rw [List.getElem?_append_left (by omega)]
 ·simp [h8]
theorem pk_append_bytes (high:Bool) (L:List Bool) (m:Nat) (zs:List Nat) (hL:L.length=8*m) (hz:∀ z∈zs,z<256) :
  pk high (m+zs.length) (L++ofBytes high zs)=pk high m L++zs:=by
 apply List.ext_getElem?
 intro i
 by_cases h:i<m
 ·rw [pk_get _ _ _ _ (by omega),List.getElem?_append_left (by rw [pk_length];exact h),pk_get _ _ _ _ h,octet_append_lt _ _ _ _ (by omega)]
 ·by_cases h2:i<m+zs.length
  ·obtain ⟨j,rfl⟩:∃ j,i=m+j:=⟨i - m,by omega⟩
   rw [pk_get _ _ _ _ h2,octet_append_ge high L m zs hL hz j (by omega),List.getElem?_append_right (by rw [pk_length];omega),pk_length,show m+j - m=j by omega,List.getElem?_eq_getElem (by omega)]
   simp [show j<zs.length by omega]
  ·rw [List.getElem?_eq_none (by rw [pk_length];omega),List.getElem?_eq_none (by rw [List.length_append,pk_length];omega)]
end Mth
namespace W4
open Go.RowKit Mth
theorem WOk.pad {w:World} {pb:Nat} {high:Bool} {v:Value} {m f:Nat} {L:List Bool} (h:WOk w pb high v m L f) :
  WOk (w.setCell ⟨pb,3,none⟩ (.int .i64 0)) pb high v m (L++List.replicate f false) 0∧Chg pb v w v (w.setCell ⟨pb,3,none⟩ (.int .i64 0)):=by
 have hl:=h.len
 refine ⟨⟨?_,?_,by simp;omega⟩,⟨rfl,rfl,rfl,by simp,fun k _ hne _=>heap_setCell_other _ _ _ _ (by exact hne),.inl rfl⟩⟩
 ·rw [heap_setCell_same _ pb 3 _ _ _ h.blk];simp
 ·rw [pk_pad]
  exact own_keep h.row (fun g e=>heap_setCell_other _ _ _ _ (by show g≠pb;have:=(h.row.lt g e).1;omega))
theorem walign_ok (pb m f:Nat) (high:Bool) (v0:Value) (L:List Bool) (w:World) (hw:WOk w pb high v0 m L f) :
  Calls Tryz.prog 52 #[.pointer (some ⟨pb,0,none⟩)] w fun e w'=>e=.returned (.int .i64 0)∧WOk w' pb high v0 m (L++List.replicate f false) 0∧Chg pb v0 w v0 w':=by
 have c0:=hw.c0
 have c3:=hw.c3
 have f3:=hw.fz 3
 have H:=qz hw.pad
 clear hw
 go_enter Tryz.func52,Tryz.ntmps52
 go_wp2_with (go_at_call 31;refine (good_yes _ _ (by assumption)).mono ?_;rintro e w' ⟨rfl,rfl⟩)
 go_ret
 exact ⟨rfl,uh H⟩
theorem WOk.growBytes {wr w1:World} {pb:Nat} {high:Bool} {v v':Value} {m:Nat} {L:List Bool} {zs:List Nat} (h:WOk wr pb high v m L 0) (hz:∀ z∈zs,z<256)
  (hown:w1.ownsRow (pb+1) 5 1 v' (m+zs.length) ((pk high m L).map bv++zs.map bv)) (hg:wr.grownBy w1 v.ownBlock) (hat:v'.ownBlock=v.ownBlock∨v'.ownBlock=some wr.heap.size) :
  WOk (w1.setCell ⟨pb,2,none⟩ v') pb high v' (m+zs.length) (L++ofBytes high zs) 0∧Chg pb v wr v' (w1.setCell ⟨pb,2,none⟩ v'):=by
 have hlt:=h.lt
 have hll:=h.len
 have hvb:v.ownBlock≠some pb:=fun e=>by have:=(h.row.lt pb e).1;omega
 have hbk:w1.heap[pb]?=some (.cells #[.bool true,.bool high,v,.int .i64 0] 52 (0,0)):=by
  rw [hg.block pb hlt (fun e=>hvb e.symm)];exact h.blk
 refine ⟨⟨?_,?_,by rw [List.length_append,ofBytes_length];omega⟩,⟨hg.os,hg.tape,hg.output,by simpa using hg.size,fun k hk hne hv=>?_,?_⟩⟩
 ·rw [heap_setCell_same _ pb 2 _ _ _ hbk];simp
 ·rw [pk_append_bytes high L m zs (by omega) hz,List.map_append]
  exact own_keep hown (fun g e=>heap_setCell_other _ _ _ _ (by show g≠pb;have:=(hown.lt g e).1;omega))
 ·rw [heap_setCell_other _ _ _ _ (by exact hne),hg.block k hk (fun e=>hv e.symm)]
 ·rcases hat with e | e
  ·exact .inl e
  ·exact .inr ⟨_,e,Nat.le_refl _⟩
theorem WOk.grownAt {wr w1:World} {pb:Nat} {high:Bool} {v:Value} {m:Nat} {L:List Bool} {f:Nat} (h:WOk wr pb high v m L f) (hg:wr.grownBy w1 v.ownBlock) :
  w1.cell? ⟨pb,2,none⟩=some v∧w1.frozen? ⟨pb,2,none⟩=false:=by
 have hvb:v.ownBlock≠some pb:=fun e=>by have:=(h.row.lt pb e).1;omega
 have hbk:w1.heap[pb]?=some (.cells #[.bool true,.bool high,v,.int .i64 (f:Int)] 52 (0,0)):=by
  rw [hg.block pb h.lt (fun e=>hvb e.symm)];exact h.blk
 simp [World.cell?,World.frozen?,hbk]
theorem own_form {w:World} {base e size n:Nat} {v:Value} {xs:List Value} (h:w.ownsRow base e size v n xs):∃ a l c,v=.slice a l c:=by
 rcases h.2 with ⟨e,_⟩ | ⟨g,c,_,e,_⟩
 ·exact ⟨_,_,_,e⟩
 ·exact ⟨_,_,_,e⟩
theorem putBytes_ok (pb m:Nat) (high:Bool) (v0:Value) (L:List Bool) (ad:Addr) (c:Nat) (zs:List Nat) (w:World) (hw:WOk w pb high v0 m L 0) (hz:∀ z∈zs,z<256)
  (hc:∀ (j:Nat) u,(zs.map bv)[j]?=some u→w.cell? (ad.add j)=some u) (hb:m+zs.length≤140737488355328) :
  Calls Tryz.prog 54 #[.pointer (some ⟨pb,0,none⟩),.slice (some ad) zs.length c] w fun e w'=>e=.returned (.int .i64 0)∧∃ v',WOk w' pb high v' (m+zs.length) (L++ofBytes high zs) 0∧Chg pb v0 w v' w':=by
 obtain ⟨i0,hi,hz0,hz1,hz2⟩:=info_parts info5
 have c0:=hw.c0
 have c2:=hw.c2
 have c3:=hw.c3
 have hlt:=hw.lt
 have H:=qz hw
 have HC:=qz hc
 have HZ:=qz hz
 clear hw hc hz
 go_enter Tryz.func54,Tryz.ntmps54
 go_wp2_with (first
  | (go_at_call 31;refine (good_yes _ _ (by assumption)).mono ?_;rintro e w' ⟨rfl,rfl⟩)
  | (at_builtin;go_must (refine wpList_append_own_at _ rfl (.tmp 17) (.tmp 18) 22 rfl (pb+1) 5 i0 (.int .u8 0) 1 1 Tryz.underlying22 hi hz0 hz1 hz2 rfl (by decide) v0 m _ (by rfl) (uh H).row ad zs.length c (zs.map bv) (by rfl) (by simp) (uh HC) (by intro u hu;simp at hu;obtain ⟨z,_,rfl⟩:=hu;rfl) (by unfold maxLen;omega) (by omega) (by omega) ?_;intro v' w1 hown hgrow _ hat;obtain ⟨va,vn,vc,rfl⟩:=own_form hown;obtain ⟨d2,e2⟩:=(uh H).grownAt hgrow;have HG:=qz ((uh H).growBytes (uh HZ) hown hgrow hat);clear hown hgrow hat)))
 go_ret
 exact ⟨rfl,_,uh HG⟩
end W4
namespace Merge
abbrev Coin:=Nat × List Nat
def pack:List Coin→List Coin
 | a :: b :: r=>(a.1+b.1,a.2++b.2) :: pack r
 | _=>[]
def mrg:List Coin→List Coin→List Coin
 | [],ps=>ps
 | bs,[]=>bs
 | b :: bs,p :: ps=>if p.1<b.1 then p :: mrg (b :: bs) ps else b :: mrg bs (p :: ps)
termination_by a b=>a.length+b.length
def rounds (base:List Coin):Nat→List Coin
 | 0=>base
 | k+1=>mrg base (pack (rounds base k))
def worth (l:List Coin):Nat:=(l.map Prod.fst).sum
def pre (l:List Coin) (m:Nat):Nat:=worth (l.take m)
def Sorted (l:List Coin):Prop:=l.Pairwise fun a b=>a.1≤b.1
theorem worth_nil:worth []=0:=rfl
theorem worth_cons (a:Coin) (l:List Coin):worth (a :: l)=a.1+worth l:=by simp [worth]
theorem worth_append (a b:List Coin):worth (a++b)=worth a+worth b:=by simp [worth]
theorem pre_zero (l:List Coin):pre l 0=0:=by simp [pre,worth]
theorem pre_cons (a:Coin) (l:List Coin) (m:Nat):pre (a :: l) (m+1)=a.1+pre l m:=by simp [pre,worth]
theorem pre_nil (m:Nat):pre [] m=0:=by simp [pre,worth]
theorem pre_mono (l:List Coin):∀ {a b:Nat},a≤b→pre l a≤pre l b:=by
 induction l with
 | nil=>intro a b _;simp [pre_nil]
 | cons x r ih =>
  intro a b h
  rcases a with _ | a
  ·rw [pre_zero];omega
  ·rcases b with _ | b
   ·omega
   ·rw [pre_cons,pre_cons]
    have:=ih (show a≤b by omega)
    omega
theorem pre_step {x:Coin} {l:List Coin} (hs:Sorted (x :: l)):∀ {m:Nat},m<l.length+1→pre (x :: l) m+x.1≤pre (x :: l) (m+1):=by
 induction l generalizing x with
 | nil=>intro m h;obtain rfl:m=0:=by simp at h;omega
        rw [pre_zero,pre_cons,pre_zero];omega
 | cons y r ih =>
  intro m h
  rcases m with _ | m
  ·rw [pre_zero,pre_cons,pre_zero];omega
  ·rw [pre_cons,pre_cons]
   have hs':Sorted (y :: r):=(List.pairwise_cons.1 hs).2
   have hxy:x.1≤y.1:=(List.pairwise_cons.1 hs).1 y (by simp)
   have:=ih hs' (m:=m) (by simp at h ⊢;omega)
   omega
theorem mrg_nil_left (ps:List Coin):mrg [] ps=ps:=by unfold mrg;rfl
theorem mrg_nil_right (bs:List Coin):mrg bs []=bs:=by
 cases bs <;> simp [mrg]
theorem mrg_length:∀ (a b:List Coin),(mrg a b).length=a.length+b.length
 | [],ps=>by rw [mrg_nil_left];simp
 | b :: bs,[]=>by rw [mrg_nil_right];simp
 | b :: bs,p :: ps=>by
  rw [mrg]
  split
  ·rw [List.length_cons,mrg_length (b :: bs) ps];simp only [List.length_cons];omega
  ·rw [List.length_cons,mrg_length bs (p :: ps)];simp only [List.length_cons];omega
termination_by a b=>a.length+b.length
theorem mrg_pre:∀ (A B:List Coin),Sorted A→Sorted B→∀ a b,a≤A.length→b≤B.length→pre (mrg A B) (a+b)≤pre A a+pre B b
 | [],B,_,_,a,b,ha,_=>by
  obtain rfl:a=0:=by simpa using ha
  rw [mrg_nil_left,pre_nil,Nat.zero_add,Nat.zero_add];exact Nat.le_refl _
 | x :: A,[],_,_,a,b,_,hb=>by
  obtain rfl:b=0:=by simpa using hb
  rw [mrg_nil_right,pre_nil,Nat.add_zero,Nat.add_zero];exact Nat.le_refl _
 | x :: A,y :: B,hA,hB,a,b,ha,hb=>by
  have hA':Sorted A:=(List.pairwise_cons.1 hA).2
  have hB':Sorted B:=(List.pairwise_cons.1 hB).2
  rw [mrg]
  split
  ·rename_i hlt
   rcases b with _ | b
   ·rcases a with _ | a
    ·rw [Nat.add_zero,pre_zero];omega
    ·have ih:=mrg_pre (x :: A) B hA hB' a 0 (by omega) (by omega)
     have st:=pre_step hA (m:=a) (by simp at ha ⊢;omega)
     rw [Nat.add_zero,pre_cons,pre_zero]
     rw [Nat.add_zero,pre_zero] at ih
     omega
   ·have ih:=mrg_pre (x :: A) B hA hB' a b ha (by simp at hb;omega)
    rw [← Nat.add_assoc,pre_cons,pre_cons]
    omega
  ·rename_i hge
   rcases a with _ | a
   ·rcases b with _ | b
    ·rw [Nat.add_zero,pre_zero];omega
    ·have ih:=mrg_pre A (y :: B) hA' hB 0 b (by omega) (by omega)
     have st:=pre_step hB (m:=b) (by simp at hb ⊢;omega)
     rw [Nat.zero_add,pre_cons,pre_zero]
     rw [Nat.zero_add,pre_zero] at ih
     omega
   ·have ih:=mrg_pre A (y :: B) hA' hB a b (by simp at ha;omega) hb
    rw [show a+1+b=(a+b)+1 by omega,pre_cons,pre_cons]
    omega
termination_by A B=>A.length+B.length
theorem pack_length:∀ l:List Coin,(pack l).length=l.length / 2
 | []=>by simp [pack]
 | [_]=>by simp [pack]
 | a :: b :: r=>by rw [pack,List.length_cons,pack_length r];simp only [List.length_cons];omega
theorem pack_pre:∀ (l:List Coin) (p:Nat),2*p≤l.length→pre (pack l) p=pre l (2*p)
 | _,0,_=>by rw [pre_zero,Nat.mul_zero,pre_zero]
 | [],p+1,h=>by simp at h
 | [_],p+1,h=>by simp at h;omega
 | a :: b :: r,p+1,h=>by
  rw [pack,pre_cons,show 2*(p+1)=(2*p+1)+1 by omega,pre_cons,pre_cons,pack_pre r p (by simp at h;omega)]
  omega
theorem mem_mrg {x:Coin}:∀ (A B:List Coin),x∈mrg A B→x∈A∨x∈B
 | [],B,h=>by rw [mrg_nil_left] at h;exact .inr h
 | a :: A,[],h=>by rw [mrg_nil_right] at h;exact .inl h
 | a :: A,b :: B,h=>by
  rw [mrg] at h
  split at h
  ·rcases List.mem_cons.1 h with rfl | h
   ·exact .inr (by simp)
   ·rcases mem_mrg (a :: A) B h with h | h
    ·exact .inl h
    ·exact .inr (List.mem_cons_of_mem _ h)
  ·rcases List.mem_cons.1 h with rfl | h
   ·exact .inl (by simp)
   ·rcases mem_mrg A (b :: B) h with h | h
    ·exact .inl (List.mem_cons_of_mem _ h)
    ·exact .inr h
termination_by A B=>A.length+B.length
theorem mrg_sorted:∀ (A B:List Coin),Sorted A→Sorted B→Sorted (mrg A B)
 | [],B,_,h=>by rw [mrg_nil_left];exact h
 | a :: A,[],h,_=>by rw [mrg_nil_right];exact h
 | a :: A,b :: B,hA,hB=>by
  have hA':=List.pairwise_cons.1 hA
  have hB':=List.pairwise_cons.1 hB
  rw [mrg]
  split
  ·rename_i hlt
   refine List.pairwise_cons.2 ⟨fun x hx=>?_,mrg_sorted (a :: A) B hA hB'.2⟩
   rcases mem_mrg _ _ hx with h | h
   ·rcases List.mem_cons.1 h with rfl | h
    ·omega
    ·have:=hA'.1 x h;omega
   ·exact hB'.1 x h
  ·rename_i hge
   refine List.pairwise_cons.2 ⟨fun x hx=>?_,mrg_sorted A (b :: B) hA'.2 hB⟩
   rcases mem_mrg _ _ hx with h | h
   ·exact hA'.1 x h
   ·rcases List.mem_cons.1 h with rfl | h
    ·omega
    ·have:=hB'.1 x h;omega
termination_by A B=>A.length+B.length
theorem pack_ge {m:Nat}:∀ (l:List Coin),(∀ x∈l,m≤x.1)→∀ x∈pack l,m+m≤x.1
 | [],_,x,h=>by simp [pack] at h
 | [_],_,x,h=>by simp [pack] at h
 | a :: b :: r,hl,x,h=>by
  rw [pack] at h
  rcases List.mem_cons.1 h with rfl | h
  ·have h1:=hl a (by simp)
   have h2:=hl b (by simp)
   show m+m≤a.1+b.1
   omega
  ·exact pack_ge r (fun y hy=>hl y (by simp [hy])) x h
theorem pack_sorted:∀ (l:List Coin),Sorted l→Sorted (pack l)
 | [],_=>by simp [pack,Sorted]
 | [_],_=>by simp [pack,Sorted]
 | a :: b :: r,h=>by
  rw [pack]
  have h1:=List.pairwise_cons.1 h
  have h2:=List.pairwise_cons.1 h1.2
  refine List.pairwise_cons.2 ⟨fun x hx=>?_,pack_sorted r h2.2⟩
  have h3:=pack_ge (m:=b.1) r (fun y hy=>h2.1 y hy) x hx
  have h4:=h1.1 b (by simp)
  show a.1+b.1≤x.1
  omega
theorem rounds_sorted {base:List Coin} (h:Sorted base):∀ k,Sorted (rounds base k)
 | 0=>h
 | k+1=>mrg_sorted _ _ h (pack_sorted _ (rounds_sorted h k))
/-! ### No choice of coins is worth less -/
def wide (c:Nat→Nat):Nat→Nat
 | 0=>c 0
 | k+1=>wide c k+c (k+1)*2 ^ (k+1)
def price (base:List Coin) (c:Nat→Nat):Nat→Nat
 | 0=>pre base (c 0)
 | k+1=>price base c k+pre base (c (k+1))
theorem wide_lt (base:List Coin) (c:Nat→Nat) (hc:∀ j,c j≤base.length):∀ k,wide c k<((rounds base k).length+1)*2 ^ k
 | 0=>by have:=hc 0;simp [wide,rounds];omega
 | k+1=>by
  have ih:=wide_lt base c hc k
  have h1:=hc (k+1)
  rw [wide,rounds,mrg_length,pack_length,Nat.pow_succ]
  generalize (rounds base k).length=n at ih ⊢
  have h2:(n+1)*2 ^ k≤(n / 2+1)*(2 ^ k*2):=by
   rw [show (n / 2+1)*(2 ^ k*2)=(2*(n / 2)+2)*2 ^ k by rw [Nat.mul_comm (2 ^ k) 2,← Nat.mul_assoc];congr 1;omega]
   exact Nat.mul_le_mul_right _ (by omega)
  have h3:c (k+1)*(2 ^ k*2)≤base.length*(2 ^ k*2):=Nat.mul_le_mul_right _ h1
  rw [show (base.length+n / 2+1)*(2 ^ k*2)=base.length*(2 ^ k*2)+(n / 2+1)*(2 ^ k*2) by rw [← Nat.add_mul,Nat.add_assoc]]
  omega
theorem best {base:List Coin} (hs:Sorted base) (c:Nat→Nat) (hc:∀ j,c j≤base.length):∀ k m,m*2 ^ k≤wide c k→pre (rounds base k) m≤price base c k
 | 0,m,h=>by
  simp only [wide,Nat.pow_zero,Nat.mul_one] at h
  exact pre_mono _ h
 | k+1,m,h=>by
  have hw:=wide_lt base c hc k
  have hp:0<2 ^ k:=Nat.two_pow_pos _
  obtain ⟨p,hpd⟩:∃ p,p=wide c k / (2 ^ k*2):=⟨_,rfl⟩
  have hd:=Nat.div_add_mod (wide c k) (2 ^ k*2)
  have hr:=Nat.mod_lt (wide c k) (show 0<2 ^ k*2 by omega)
  rw [← hpd] at hd
  have h1:(2*p)*2 ^ k≤wide c k:=by
   rw [show 2*p*2 ^ k=2 ^ k*2*p by rw [Nat.mul_comm 2 p,Nat.mul_assoc,Nat.mul_comm p,Nat.mul_comm 2]]
   omega
  have h2:2*p≤(rounds base k).length:=by
   have:2*p*2 ^ k<((rounds base k).length+1)*2 ^ k:=Nat.lt_of_le_of_lt h1 hw
   have:=Nat.lt_of_mul_lt_mul_right this
   omega
  have h3:m≤c (k+1)+p:=by
   rw [wide,Nat.pow_succ] at h
   have h4:m*(2 ^ k*2)<(c (k+1)+p+1)*(2 ^ k*2):=by
    rw [show (c (k+1)+p+1)*(2 ^ k*2)=c (k+1)*(2 ^ k*2)+2 ^ k*2*p+2 ^ k*2 by rw [Nat.add_mul,Nat.add_mul,Nat.one_mul,Nat.mul_comm p]]
    omega
   have:=Nat.lt_of_mul_lt_mul_right h4
   omega
  have ih:=best hs c hc k (2*p) h1
  rw [← pack_pre _ p h2] at ih
  have hm:=mrg_pre base (pack (rounds base k)) hs (pack_sorted _ (rounds_sorted hs k)) (c (k+1)) p (hc _) (by rw [pack_length];omega)
  have hmo:=pre_mono (mrg base (pack (rounds base k))) h3
  rw [rounds,price]
  omega
/-! ### What is chosen -/
def syms (l:List Coin):List Nat:=l.flatMap Prod.snd
theorem syms_append (a b:List Coin):syms (a++b)=syms a++syms b:=by simp [syms]
theorem syms_cons (a:Coin) (l:List Coin):syms (a :: l)=a.2++syms l:=by simp [syms]
theorem pack_syms:∀ (l:List Coin) (p:Nat),2*p≤l.length→syms ((pack l).take p)=syms (l.take (2*p))
 | _,0,_=>by simp [syms]
 | [],p+1,h=>by simp at h
 | [_],p+1,h=>by simp at h;omega
 | a :: b :: r,p+1,h=>by
  rw [pack,List.take_succ_cons,show 2*(p+1)=(2*p+1)+1 by omega,List.take_succ_cons,List.take_succ_cons,syms_cons,syms_cons,syms_cons,pack_syms r p (by simp at h;omega),List.append_assoc]
theorem mrg_take:∀ (A B:List Coin) (m:Nat),m≤A.length+B.length→∃ a b,a+b=m∧a≤A.length∧b≤B.length∧((mrg A B).take m).Perm (A.take a++B.take b)
 | A,B,0,_=>⟨0,0,rfl,by omega,by omega,by simp⟩
 | [],B,m+1,h=>⟨0,m+1,by omega,by omega,by simpa using h,by rw [mrg_nil_left];simp⟩
 | x :: A,[],m+1,h=>⟨m+1,0,by omega,by simpa using h,by omega,by rw [mrg_nil_right];simp⟩
 | x :: A,y :: B,m+1,h=>by
  rw [mrg]
  split
  ·obtain ⟨a,b,h1,h2,h3,h4⟩:=mrg_take (x :: A) B m (by simp at h ⊢;omega)
   refine ⟨a,b+1,by omega,h2,by simpa using h3,?_⟩
   rw [List.take_succ_cons,List.take_succ_cons]
   exact (h4.cons y).trans List.perm_middle.symm
  ·obtain ⟨a,b,h1,h2,h3,h4⟩:=mrg_take A (y :: B) m (by simp at h ⊢;omega)
   refine ⟨a+1,b,by omega,by simpa using h2,h3,?_⟩
   rw [List.take_succ_cons,List.take_succ_cons,List.cons_append]
   exact h4.cons x
termination_by A B=>A.length+B.length
def chosen (base:List Coin) (c:Nat→Nat):Nat→List Nat
 | 0=>syms (base.take (c 0))
 | k+1=>chosen base c k++syms (base.take (c (k+1)))
theorem chosen_congr {base:List Coin} {c d:Nat→Nat}:∀ k,(∀ j,j≤k→c j=d j)→chosen base c k=chosen base d k
 | 0,h=>by rw [chosen,chosen,h 0 (Nat.le_refl _)]
 | k+1,h=>by rw [chosen,chosen,chosen_congr k (fun j hj=>h j (by omega)),h (k+1) (Nat.le_refl _)]
theorem wide_congr {c d:Nat→Nat}:∀ k,(∀ j,j≤k→c j=d j)→wide c k=wide d k
 | 0,h=>by rw [wide,wide,h 0 (Nat.le_refl _)]
 | k+1,h=>by rw [wide,wide,wide_congr k (fun j hj=>h j (by omega)),h (k+1) (Nat.le_refl _)]
theorem pieces (base:List Coin):∀ k m,m≤(rounds base k).length→∃ c:Nat→Nat,(∀ j,c j≤base.length)∧wide c k=m*2 ^ k∧(syms ((rounds base k).take m)).Perm (chosen base c k)
 | 0,m,h=>⟨fun j=>if j=0 then m else 0,fun j=>by
   by_cases e:j=0
   ·simp only [if_pos e];exact h
   ·simp only [if_neg e];omega,by simp [wide],by simp [chosen,rounds]⟩
 | k+1,m,h=>by
  rw [rounds] at h ⊢
  rw [mrg_length] at h
  obtain ⟨a,b,h1,h2,h3,h4⟩:=mrg_take base (pack (rounds base k)) m h
  rw [pack_length] at h3
  obtain ⟨c,c1,c2,c3⟩:=pieces base k (2*b) (by omega)
  refine ⟨fun j=>if j=k+1 then a else c j,fun j=>?_,?_,?_⟩
  ·by_cases e:j=k+1
   ·simp only [if_pos e];exact h2
   ·simp only [if_neg e];exact c1 j
  ·rw [wide,wide_congr (d:=c) k (fun j hj=>if_neg (by omega)),c2,if_pos rfl,← h1,Nat.pow_succ,Nat.add_mul,Nat.add_comm (a*_)]
   congr 1
   rw [Nat.mul_comm 2 b,Nat.mul_assoc,Nat.mul_comm 2]
  ·rw [chosen,chosen_congr (d:=c) k (fun j hj=>if_neg (by omega)),if_pos rfl]
   have hp:(syms ((mrg base (pack (rounds base k))).take m)).Perm (syms (base.take a++(pack (rounds base k)).take b)):=List.Perm.flatMap_right _ h4
   rw [syms_append,pack_syms _ b (by omega)] at hp
   exact hp.trans (List.perm_append_comm.trans (c3.append_right _))
/-! ### Worth by symbols -/
def Fair (w:Nat→Nat) (l:List Coin):Prop:=∀ x∈l,x.1=(x.2.map w).sum
theorem fair_worth {w:Nat→Nat} {l:List Coin} (h:Fair w l):worth l=((syms l).map w).sum:=by
 induction l with
 | nil=>rfl
 | cons x r ih =>
  rw [worth_cons,syms_cons,List.map_append,List.sum_append,← ih (fun y hy=>h y (by simp [hy])),h x (by simp)]
theorem fair_pack {w:Nat→Nat}:∀ {l:List Coin},Fair w l→Fair w (pack l)
 | [],_=>by simp [pack,Fair]
 | [_],_=>by simp [pack,Fair]
 | a :: b :: r,h=>by
  rw [pack]
  intro x hx
  rcases List.mem_cons.1 hx with rfl | hx
  ·show a.1+b.1=((a.2++b.2).map w).sum
   rw [h a (by simp),h b (by simp),List.map_append,List.sum_append]
  ·exact fair_pack (l:=r) (fun y hy=>h y (by simp [hy])) x hx
theorem fair_rounds {w:Nat→Nat} {base:List Coin} (h:Fair w base):∀ k,Fair w (rounds base k)
 | 0=>h
 | k+1=>fun x hx=>by
  rcases mem_mrg _ _ hx with hx | hx
  ·exact h x hx
  ·exact fair_pack (fair_rounds h k) x hx
theorem fair_pre {w:Nat→Nat} {l:List Coin} (h:Fair w l) (m:Nat):pre l m=((syms (l.take m)).map w).sum :=
 fair_worth (fun x hx=>h x (List.mem_of_mem_take hx))
end Merge
namespace Merge
def lsum (f:Nat→Nat) (L:List Nat):Nat:=(L.map f).sum
theorem lsum_nil (f:Nat→Nat):lsum f []=0:=rfl
theorem lsum_cons (f:Nat→Nat) (x:Nat) (L:List Nat):lsum f (x :: L)=f x+lsum f L:=by simp [lsum]
theorem lsum_add (f g:Nat→Nat) (L:List Nat):lsum (fun i=>f i+g i) L=lsum f L+lsum g L:=by
 induction L with
 | nil=>rfl
 | cons x r ih=>rw [lsum_cons,lsum_cons,lsum_cons,ih];omega
theorem lsum_le {f g:Nat→Nat} {L:List Nat} (h:∀ i∈L,f i≤g i):lsum f L≤lsum g L:=by
 induction L with
 | nil=>exact Nat.le_refl _
 | cons x r ih =>
  have h1:=h x (by simp)
  have h2:=ih (fun i hi=>h i (by simp [hi]))
  rw [lsum_cons,lsum_cons];omega
theorem lsum_congr {f g:Nat→Nat} {L:List Nat} (h:∀ i∈L,f i=g i):lsum f L=lsum g L :=
 Nat.le_antisymm (lsum_le fun i hi=>Nat.le_of_eq (h i hi)) (lsum_le fun i hi=>Nat.le_of_eq (h i hi).symm)
theorem lsum_const (c:Nat) (L:List Nat):lsum (fun _=>c) L=L.length*c:=by
 induction L with
 | nil=>simp [lsum]
 | cons x r ih=>rw [lsum_cons,ih,List.length_cons,Nat.add_mul];omega
theorem lsum_zero (L:List Nat):lsum (fun _=>0) L=0:=by rw [lsum_const];omega
def jsum (f:Nat→Nat):Nat→Nat
 | 0=>f 0
 | k+1=>jsum f k+f (k+1)
theorem jsum_congr {f g:Nat→Nat}:∀ k,(∀ j,j≤k→f j=g j)→jsum f k=jsum g k
 | 0,h=>h 0 (Nat.le_refl _)
 | k+1,h=>by rw [jsum,jsum,jsum_congr k (fun j hj=>h j (by omega)),h (k+1) (Nat.le_refl _)]
theorem jsum_le {f g:Nat→Nat}:∀ k,(∀ j,j≤k→f j≤g j)→jsum f k≤jsum g k
 | 0,h=>h 0 (Nat.le_refl _)
 | k+1,h=>Nat.add_le_add (jsum_le k (fun j hj=>h j (by omega))) (h (k+1) (Nat.le_refl _))
theorem jsum_lsum (g:Nat→Nat→Nat) (L:List Nat):∀ k,jsum (fun j=>lsum (fun i=>g i j) L) k=lsum (fun i=>jsum (g i) k) L
 | 0=>rfl
 | k+1=>by
  rw [jsum,jsum_lsum g L k]
  show _=lsum (fun i=>jsum (g i) k+g i (k+1)) L
  rw [lsum_add]
theorem wide_jsum (c:Nat→Nat):∀ k,wide c k=jsum (fun j=>c j*2 ^ j) k
 | 0=>by simp [wide,jsum]
 | k+1=>by rw [wide,jsum,wide_jsum c k]
theorem price_jsum (base:List Coin) (c:Nat→Nat):∀ k,price base c k=jsum (fun j=>pre base (c j)) k
 | 0=>rfl
 | k+1=>by rw [price,jsum,price_jsum base c k]
def baseOf (w:Nat→Nat) (order:List Nat):List Coin:=order.map fun i=>(w i,[i])
theorem base_syms (w:Nat→Nat) (order:List Nat):syms (baseOf w order)=order:=by
 induction order with
 | nil=>rfl
 | cons x r ih=>rw [baseOf,List.map_cons,syms_cons];show [x]++syms (baseOf w r)=_;rw [ih];rfl
theorem base_take (w:Nat→Nat) (order:List Nat) (m:Nat):(baseOf w order).take m=baseOf w (order.take m):=by simp [baseOf]
theorem base_length (w:Nat→Nat) (order:List Nat):(baseOf w order).length=order.length:=by simp [baseOf]
theorem base_fair (w:Nat→Nat) (order:List Nat):Fair w (baseOf w order):=fun x hx=>by
 obtain ⟨i,_,rfl⟩:=List.mem_map.1 hx
 simp
theorem count_sum {order:List Nat} (hd:order.Nodup) (w:Nat→Nat):∀ (s:List Nat),(∀ i∈s,i∈order)→(s.map w).sum=lsum (fun i=>s.count i*w i) order
 | [],_=>by simp [lsum_zero]
 | x :: s,h=>by
  have ih:=count_sum hd w s (fun i hi=>h i (by simp [hi]))
  have hx:=h x (by simp)
  rw [List.map_cons,List.sum_cons,ih]
  have e:lsum (fun i=>(x :: s).count i*w i) order=lsum (fun i=>(if x=i then w i else 0)+s.count i*w i) order:=lsum_congr fun i _=>by
   rw [List.count_cons]
   by_cases e:x=i
   ·subst e;simp [Nat.add_mul];omega
   ·simp [e]
  rw [e,lsum_add]
  congr 1
  clear e ih h
  induction order with
  | nil=>simp at hx
  | cons y r ih2 =>
   rw [lsum_cons]
   have hd':=List.nodup_cons.1 hd
   by_cases e:x=y
   ·subst e
    rw [if_pos rfl,lsum_congr (g:=fun _=>0) (fun i hi=>if_neg (fun e:x=i=>hd'.1 (by rw [e];exact hi))),lsum_zero];omega
   ·rw [if_neg e,← ih2 hd'.2 (by simpa [e] using hx)];omega
theorem chosen_mem {w:Nat→Nat} {order:List Nat} {c:Nat→Nat}:∀ k i,i∈chosen (baseOf w order) c k→i∈order
 | 0,i,h=>by rw [chosen,base_take,base_syms] at h;exact List.mem_of_mem_take h
 | k+1,i,h=>by
  rw [chosen] at h
  rcases List.mem_append.1 h with h | h
  ·exact chosen_mem k i h
  ·rw [base_take,base_syms] at h;exact List.mem_of_mem_take h
theorem chosen_count {w:Nat→Nat} {order:List Nat} (c:Nat→Nat) (i:Nat):∀ k,(chosen (baseOf w order) c k).count i=jsum (fun j=>(order.take (c j)).count i) k
 | 0=>by rw [chosen,base_take,base_syms];rfl
 | k+1=>by rw [chosen,List.count_append,chosen_count c i k,base_take,base_syms];rfl
theorem take_count {order:List Nat} (hd:order.Nodup) (m i:Nat):(order.take m).count i≤1 :=
 List.nodup_iff_count.1 ((List.take_sublist m order).nodup hd) i
theorem powers (q:Nat→Nat) (hq:∀ j,q j≤1):∀ k,jsum (fun j=>q j*2 ^ j) k+2 ^ (k+1 - jsum q k)≤2 ^ (k+1)∧jsum q k≤k+1
 | 0=>by
  have h0:=hq 0
  simp only [jsum]
  have:q 0=0∨q 0=1:=by omega
  rcases this with e | e <;> rw [e] <;> simp
 | k+1=>by
  obtain ⟨ih,ih2⟩:=powers q hq k
  have h0:=hq (k+1)
  simp only [jsum]
  have:q (k+1)=0∨q (k+1)=1:=by omega
  have hp:2 ^ (k+1+1)=2*2 ^ (k+1):=by rw [Nat.pow_succ];omega
  rcases this with e | e
  ·rw [e]
   refine ⟨?_,by omega⟩
   simp only [Nat.zero_mul,Nat.add_zero]
   rw [hp,show k+1+1 - jsum q k=(k+1 - jsum q k)+1 by omega,Nat.pow_succ]
   omega
  ·rw [e]
   refine ⟨?_,by omega⟩
   rw [hp,Nat.one_mul,show k+1+1 - (jsum q k+1)=k+1 - jsum q k by omega]
   omega
/-! ### The lengths -/
def out (w:Nat→Nat) (order:List Nat) (M:Nat) (i:Nat):Nat:=(syms ((rounds (baseOf w order) (M - 1)).take (2*order.length - 2))).count i
theorem enough (w:Nat→Nat) (order:List Nat) (M:Nat) (hM:1≤M) (hn:order.length≤2 ^ M):2*order.length - 2≤(rounds (baseOf w order) (M - 1)).length:=by
 obtain ⟨k,rfl⟩:∃ k,M=k+1:=⟨M - 1,by omega⟩
 have h:=wide_lt (baseOf w order) (fun _=>order.length) (fun _=>by rw [base_length];exact Nat.le_refl _) k
 have e:∀ k,wide (fun _=>order.length) k+order.length=order.length*2 ^ (k+1):=by
  intro k
  induction k with
  | zero=>simp [wide];omega
  | succ k ih=>rw [wide,Nat.pow_succ 2 (k+1),← Nat.mul_assoc];omega
 have e1:=e k
 rw [Nat.add_sub_cancel]
 have hp:2 ^ (k+1)=2*2 ^ k:=by rw [Nat.pow_succ];omega
 by_cases h1:order.length≤1
 ·omega
 ·have h2:(2*order.length - 2)*2 ^ k<((rounds (baseOf w order) k).length+1)*2 ^ k:=by
   refine Nat.lt_of_le_of_lt ?_ h
   rw [Nat.sub_mul]
   rw [hp] at e1 hn
   rw [show order.length*(2*2 ^ k)=2*order.length*2 ^ k by rw [Nat.mul_comm 2 order.length,Nat.mul_assoc]] at e1
   omega
  have:=Nat.lt_of_mul_lt_mul_right h2
  omega
section
variable {w:Nat→Nat} {order:List Nat} {M:Nat}
theorem out_counts (hM:1≤M) (hn:order.length≤2 ^ M):∃ c:Nat→Nat,(∀ j,c j≤order.length)∧wide c (M - 1)=(2*order.length - 2)*2 ^ (M - 1)∧(∀ i,out w order M i=jsum (fun j=>(order.take (c j)).count i) (M - 1)) ∧
  (∀ i∈syms ((rounds (baseOf w order) (M - 1)).take (2*order.length - 2)),i∈order):=by
 obtain ⟨c,c1,c2,c3⟩:=pieces (baseOf w order) (M - 1) (2*order.length - 2) (enough w order M hM hn)
 rw [base_length] at c1
 exact ⟨c,c1,c2,fun i=>by rw [out,c3.count_eq,chosen_count],fun i hi=>chosen_mem _ i (c3.mem_iff.1 hi)⟩
theorem out_le (hd:order.Nodup) (hM:1≤M) (hn:order.length≤2 ^ M) (i:Nat):out w order M i≤M:=by
 obtain ⟨c,_,_,c3,_⟩:=out_counts (w:=w) hM hn
 rw [c3]
 have:=(powers _ (fun j=>take_count hd (c j) i) (M - 1)).2
 omega
theorem out_kraft (hd:order.Nodup) (hM:1≤M) (hn:order.length≤2 ^ M) (h2:2≤order.length):lsum (fun i=>2 ^ (M - out w order M i)) order≤2 ^ M:=by
 obtain ⟨c,c1,c2,c3,_⟩:=out_counts (w:=w) hM hn
 have e1:wide c (M - 1)=lsum (fun i=>jsum (fun j=>(order.take (c j)).count i*2 ^ j) (M - 1)) order:=by
  rw [wide_jsum,← jsum_lsum]
  refine jsum_congr _ (fun j _=>?_)
  have:=count_sum hd (fun _=>2 ^ j) (order.take (c j)) (fun i hi=>List.mem_of_mem_take hi)
  rw [← this]
  have hl:(order.take (c j)).length=c j:=by rw [List.length_take];have:=c1 j;omega
  have:=lsum_const (2 ^ j) (order.take (c j))
  rw [hl] at this
  exact this.symm
 have e2:lsum (fun i=>jsum (fun j=>(order.take (c j)).count i*2 ^ j) (M - 1)+2 ^ (M - out w order M i)) order≤lsum (fun _=>2 ^ M) order:=lsum_le fun i _=>by
  have:=(powers _ (fun j=>take_count hd (c j) i) (M - 1)).1
  rw [show M - 1+1=M by omega] at this
  rw [c3]
  exact this
 rw [lsum_add,← e1,c2,lsum_const] at e2
 obtain ⟨k,rfl⟩:∃ k,M=k+1:=⟨M - 1,by omega⟩
 rw [Nat.add_sub_cancel] at e2
 have hp:2 ^ (k+1)=2*2 ^ k:=by rw [Nat.pow_succ];omega
 rw [Nat.sub_mul,hp,show order.length*(2*2 ^ k)=2*order.length*2 ^ k by rw [Nat.mul_comm 2 order.length,Nat.mul_assoc]] at e2
 have h3:2*2 ^ k≤2*order.length*2 ^ k:=Nat.mul_le_mul_right _ (by omega)
 rw [hp]
 omega
theorem out_cost (hd:order.Nodup) (hM:1≤M) (hn:order.length≤2 ^ M):lsum (fun i=>out w order M i*w i) order=pre (rounds (baseOf w order) (M - 1)) (2*order.length - 2):=by
 obtain ⟨c,_,_,_,c4⟩:=out_counts (w:=w) hM hn
 rw [fair_pre (fair_rounds (base_fair w order) _),count_sum hd w _ c4]
 rfl
/-! ### No others cost less -/
theorem pre_tail {x:Coin} {l:List Coin} (hs:Sorted (x :: l)) {m:Nat} (h:m≤l.length):pre (x :: l) m≤pre l m:=by
 rcases m with _ | m
 ·rw [pre_zero,pre_zero];exact Nat.le_refl _
 ·rw [pre_cons]
  have hl:Sorted l:=(List.pairwise_cons.1 hs).2
  cases l with
  | nil=>simp at h
  | cons y r =>
   have h1:=(List.pairwise_cons.1 hs).1 y (by simp)
   have h2:=pre_step hl (m:=m) (by simp at h ⊢;omega)
   omega
theorem pre_sub {l s:List Coin} (h:s.Sublist l):Sorted l→pre l s.length≤worth s:=by
 induction h with
 | slnil=>intro _;simp [pre_zero,worth_nil]
 | cons x h ih =>
  intro hs
  have:=ih (List.pairwise_cons.1 hs).2
  exact Nat.le_trans (pre_tail hs h.length_le) this
 | cons_cons x h ih =>
  intro hs
  have:=ih (List.pairwise_cons.1 hs).2
  rw [List.length_cons,pre_cons,worth_cons]
  omega
theorem top_powers (l:Nat):∀ k,l≤k+1→jsum (fun j=>(if k+1 - j≤l then 1 else 0)*2 ^ j) k+2 ^ (k+1 - l)=2 ^ (k+1):=by
 have gen:∀ K k,k≤K→l≤K+1→jsum (fun j=>(if K+1 - j≤l then 1 else 0)*2 ^ j) k+(if K+1 - k≤l then 2 ^ (K+1 - l) else 2 ^ (k+1))=2 ^ (k+1):=by
  intro K k
  induction k with
  | zero =>
   intro _ hl
   simp only [jsum]
   by_cases e:K+1 - 0≤l
   ·rw [if_pos e,if_pos e,show K+1 - l=0 by omega]
   ·rw [if_neg e,if_neg e]
  | succ k ih =>
   intro hk hl
   have ih':=ih (by omega) hl
   have hp:2 ^ (k+1+1)=2*2 ^ (k+1):=by rw [Nat.pow_succ];omega
   rw [jsum]
   by_cases e:K+1 - (k+1)≤l
   ·rw [if_pos e,if_pos e,Nat.one_mul,hp]
    by_cases e2:K+1 - k≤l
    ·rw [if_pos e2] at ih';omega
    ·rw [if_neg e2] at ih'
     rw [show K+1 - l=k+1 by omega]
     omega
   ·rw [if_neg e,if_neg e,Nat.zero_mul,hp]
    rw [if_neg (by omega)] at ih'
    omega
 intro k hl
 have:=gen k k (Nat.le_refl _) hl
 by_cases e:k+1 - k≤l
 ·rw [if_pos e] at this;exact this
 ·rw [if_neg e] at this
  obtain rfl:l=0:=by omega
  exact this
theorem top_count (l:Nat):∀ k,l≤k+1→jsum (fun j=>if k+1 - j≤l then 1 else 0) k=l:=by
 have gen:∀ K k,k≤K→jsum (fun j=>if K+1 - j≤l then 1 else 0) k=k+1 - (K+1 - l):=by
  intro K k
  induction k with
  | zero =>
   intro _
   simp only [jsum]
   by_cases e:K+1 - 0≤l
   ·rw [if_pos e];omega
   ·rw [if_neg e];omega
  | succ k ih =>
   intro hk
   rw [jsum,ih (by omega)]
   by_cases e:K+1 - (k+1)≤l
   ·rw [if_pos e];omega
   ·rw [if_neg e];omega
 intro k hl
 rw [gen k k (Nat.le_refl _)];omega
theorem lsum_mul (f:Nat→Nat) (c:Nat) (L:List Nat):lsum (fun i=>f i*c) L=lsum f L*c:=by
 induction L with
 | nil=>simp [lsum_nil]
 | cons x r ih=>rw [lsum_cons,lsum_cons,ih,Nat.add_mul]
theorem jsum_mul (f:Nat→Nat) (c:Nat):∀ k,jsum (fun j=>f j*c) k=jsum f k*c
 | 0=>rfl
 | k+1=>by rw [jsum,jsum,jsum_mul f c k,Nat.add_mul]
theorem filter_lsum (p:Nat→Bool) (w:Nat→Nat) (L:List Nat):((L.filter p).map w).sum=lsum (fun i=>(if p i=true then 1 else 0)*w i) L:=by
 induction L with
 | nil=>rfl
 | cons x r ih =>
  rw [lsum_cons]
  by_cases e:p x=true
  ·rw [List.filter_cons_of_pos e,List.map_cons,List.sum_cons,ih,if_pos e];omega
  ·rw [List.filter_cons_of_neg e,ih,if_neg e];omega
theorem other_cost (hs:Sorted (baseOf w order)) (hM:1≤M) (l:Nat→Nat) (hl:∀ i∈order,l i≤M) (hk:lsum (fun i=>2 ^ (M - l i)) order≤2 ^ M) :
  pre (rounds (baseOf w order) (M - 1)) (2*order.length - 2)≤lsum (fun i=>l i*w i) order:=by
 obtain ⟨k,rfl⟩:∃ k,M=k+1:=⟨M - 1,by omega⟩
 rw [Nat.add_sub_cancel]
 have hc:∀ j,(order.filter (fun i=>decide (k+1 - j≤l i))).length≤(baseOf w order).length:=fun j=>by rw [base_length];exact List.length_filter_le _ _
 have hwide:wide (fun j=>(order.filter (fun i=>decide (k+1 - j≤l i))).length) k=lsum (fun i=>jsum (fun j=>(if k+1 - j≤l i then 1 else 0)*2 ^ j) k) order:=by
  rw [wide_jsum,← jsum_lsum]
  refine jsum_congr _ (fun j _=>?_)
  have:=filter_lsum (fun i=>decide (k+1 - j≤l i)) (fun _=>2 ^ j) order
  simp only [decide_eq_true_eq] at this
  rw [← this]
  have h3:=lsum_const (2 ^ j) (order.filter (fun i=>decide (k+1 - j≤l i)))
  exact h3.symm
 have hw2:(2*order.length - 2)*2 ^ k≤wide (fun j=>(order.filter (fun i=>decide (k+1 - j≤l i))).length) k:=by
  have e:lsum (fun i=>jsum (fun j=>(if k+1 - j≤l i then 1 else 0)*2 ^ j) k+2 ^ (k+1 - l i)) order=lsum (fun _=>2 ^ (k+1)) order:=lsum_congr fun i hi=>top_powers (l i) k (hl i hi)
  rw [lsum_add,← hwide,lsum_const] at e
  have hp:2 ^ (k+1)=2*2 ^ k:=by rw [Nat.pow_succ];omega
  rw [hp,show order.length*(2*2 ^ k)=2*order.length*2 ^ k by rw [Nat.mul_comm 2 order.length,Nat.mul_assoc]] at e
  rw [hp] at hk
  rw [Nat.sub_mul]
  omega
 refine Nat.le_trans (best hs _ hc k _ hw2) ?_
 rw [price_jsum]
 have e:lsum (fun i=>l i*w i) order=jsum (fun j=>lsum (fun i=>(if k+1 - j≤l i then 1 else 0)*w i) order) k:=by
  rw [jsum_lsum]
  refine lsum_congr fun i hi=>?_
  rw [jsum_mul,top_count (l i) k (hl i hi)]
 rw [e]
 refine jsum_le _ (fun j _=>?_)
 have hf:=filter_lsum (fun i=>decide (k+1 - j≤l i)) w order
 simp only [decide_eq_true_eq] at hf
 rw [← hf]
 have hsub:(baseOf w (order.filter (fun i=>decide (k+1 - j≤l i)))).Sublist (baseOf w order):=(List.filter_sublist).map _
 have:=pre_sub hsub hs
 rw [base_length] at this
 refine Nat.le_trans this (Nat.le_of_eq ?_)
 simp [worth,baseOf,List.map_map,Function.comp_def]
/-! ### They are full -/
theorem lsum_change {f g:Nat→Nat} {i:Nat}:∀ {L:List Nat},L.Nodup→i∈L→lsum (fun x=>if x=i then g x else f x) L+f i=lsum f L+g i
 | [],_,h=>by simp at h
 | y :: r,hd,h=>by
  have hd':=List.nodup_cons.1 hd
  rw [lsum_cons,lsum_cons]
  by_cases e:y=i
  ·subst e
   rw [if_pos rfl,lsum_congr (f:=fun x=>if x=y then g x else f x) (g:=f) (fun x hx=>if_neg (fun e:x=y=>hd'.1 (by rw [← e];exact hx)))]
   omega
  ·rw [if_neg e]
   have:=lsum_change (f:=f) (g:=g) hd'.2 (show i∈r by rcases List.mem_cons.1 h with h | h;exact absurd h.symm e;exact h)
   omega
theorem lsum_more {f:Nat→Nat} (hf:∀ x,1≤f x) {i:Nat}:∀ {L:List Nat},i∈L→f i+(L.length - 1)≤lsum f L
 | [],h=>by simp at h
 | y :: r,h=>by
  rw [lsum_cons,List.length_cons,Nat.add_sub_cancel]
  have hr:r.length≤lsum f r:=by
   have:=lsum_le (L:=r) (f:=fun _=>1) (g:=f) (fun x _=>hf x)
   rw [lsum_const] at this
   omega
  rcases List.mem_cons.1 h with rfl | h
  ·omega
  ·have:=lsum_more hf h
   have h1:=hf y
   have h3:0<r.length:=List.length_pos_of_mem h
   omega
theorem greatest (f:Nat→Nat):∀ {L:List Nat},L≠[]→∃ i,i∈L∧∀ x∈L,f x≤f i
 | [],h=>absurd rfl h
 | [y],_=>⟨y,by simp,fun x hx=>by simp at hx;subst hx;exact Nat.le_refl _⟩
 | y :: z :: r,_=>by
  obtain ⟨i,h1,h2⟩:=greatest f (L:=z :: r) (by simp)
  by_cases e:f y≤f i
  ·exact ⟨i,List.mem_cons_of_mem _ h1,fun x hx=>by rcases List.mem_cons.1 hx with rfl | hx;exact e;exact h2 x hx⟩
  ·exact ⟨y,by simp,fun x hx=>by rcases List.mem_cons.1 hx with rfl | hx;exact Nat.le_refl _;have:=h2 x hx;omega⟩
theorem lsum_dvd {f:Nat→Nat} {d:Nat}:∀ {L:List Nat},(∀ x∈L,d∣f x)→d∣lsum f L
 | [],_=>by rw [lsum_nil];exact Nat.dvd_zero d
 | y :: r,h=>by rw [lsum_cons];exact Nat.dvd_add (h y (by simp)) (lsum_dvd fun x hx=>h x (by simp [hx]))
theorem out_pos (hd:order.Nodup) (hM:1≤M) (hn:order.length≤2 ^ M) (h2:2≤order.length) {i:Nat} (hi:i∈order):1≤out w order M i:=by
 have hk:=out_kraft (w:=w) hd hM hn h2
 rcases Nat.eq_zero_or_pos (out w order M i) with e | e
 ·have:=lsum_more (f:=fun i=>2 ^ (M - out w order M i)) (fun x=>Nat.two_pow_pos _) hi
  simp only [e,Nat.sub_zero] at this
  omega
 ·exact e
theorem out_full (hs:Sorted (baseOf w order)) (hd:order.Nodup) (hw:∀ i∈order,0<w i) (hM:1≤M) (hn:order.length≤2 ^ M) (h2:2≤order.length):lsum (fun i=>2 ^ (M - out w order M i)) order=2 ^ M:=by
 have hk:=out_kraft (w:=w) hd hM hn h2
 rcases Nat.lt_or_ge (lsum (fun i=>2 ^ (M - out w order M i)) order) (2 ^ M) with hlt | hge
 ·exfalso
  obtain ⟨i,hi,hmax⟩:=greatest (out w order M) (L:=order) (by intro e;rw [e] at h2;simp at h2)
  have hp:=out_pos (w:=w) hd hM hn h2 hi
  have hle:=out_le (w:=w) hd hM hn i
  obtain ⟨T,hT⟩:∃ T,T=out w order M i:=⟨_,rfl⟩
  -- all are multiples of the least one
  have hdv:2 ^ (M - T)∣lsum (fun i=>2 ^ (M - out w order M i)) order:=lsum_dvd fun x hx=>Nat.pow_dvd_pow 2 (by have:=hmax x hx;omega)
  have hdv2:2 ^ (M - T)∣2 ^ M:=Nat.pow_dvd_pow 2 (by omega)
  have hroom:lsum (fun i=>2 ^ (M - out w order M i)) order+2 ^ (M - T)≤2 ^ M:=by
   obtain ⟨a,ha⟩:=hdv
   obtain ⟨b,hb⟩:=hdv2
   rw [ha,hb] at hlt ⊢
   have hab:a<b:=Nat.lt_of_mul_lt_mul_left hlt
   have:=Nat.mul_le_mul_left (2 ^ (M - T)) (show a+1≤b from hab)
   rw [Nat.mul_add,Nat.mul_one] at this
   exact this
  -- a shorter word there
  have hch:=lsum_change (f:=fun x=>2 ^ (M - out w order M x)) (g:=fun x=>2 ^ (M - (out w order M x - 1))) hd hi
  have hk2:lsum (fun x=>2 ^ (M - (if x=i then out w order M x - 1 else out w order M x))) order≤2 ^ M:=by
   have e:lsum (fun x=>2 ^ (M - (if x=i then out w order M x - 1 else out w order M x))) order=lsum (fun x=>if x=i then 2 ^ (M - (out w order M x - 1)) else 2 ^ (M - out w order M x)) order:=lsum_congr fun x _=>by
    by_cases e:x=i
    ·rw [if_pos e,if_pos e]
    ·rw [if_neg e,if_neg e]
   rw [e]
   simp only [← hT] at hch hp hle
   have hpw:2 ^ (M - (T - 1))=2*2 ^ (M - T):=by rw [show M - (T - 1)=(M - T)+1 by omega,Nat.pow_succ];omega
   rw [hpw] at hch
   omega
  have hco:=other_cost hs hM (fun x=>if x=i then out w order M x - 1 else out w order M x) (fun x hx=>by
   have:=out_le (w:=w) hd hM hn x
   by_cases e:x=i
   ·simp only [if_pos e];omega
   ·simp only [if_neg e];exact this) hk2
  rw [← out_cost hd hM hn] at hco
  have hch2:=lsum_change (f:=fun x=>out w order M x*w x) (g:=fun x=>(out w order M x - 1)*w x) hd hi
  have e2:lsum (fun x=>(if x=i then out w order M x - 1 else out w order M x)*w x) order=lsum (fun x=>if x=i then (out w order M x - 1)*w x else out w order M x*w x) order:=lsum_congr fun x _=>by
   by_cases e:x=i
   ·rw [if_pos e,if_pos e]
   ·rw [if_neg e,if_neg e]
  rw [e2] at hco
  have hwi:=hw i hi
  have hmul:out w order M i*w i=(out w order M i - 1)*w i+w i:=by
   have:out w order M i=(out w order M i - 1)+1:=by omega
   rw [this,Nat.add_mul,Nat.one_mul,Nat.add_sub_cancel]
  omega
 ·omega
theorem kraft_more {l:Nat→Nat} {L:List Nat} (hl:∀ i∈L,l i≤M) (d:Nat):lsum (fun i=>2 ^ (M+d - l i)) L=lsum (fun i=>2 ^ (M - l i)) L*2 ^ d:=by
 rw [← lsum_mul]
 refine lsum_congr fun i hi=>?_
 have:=hl i hi
 rw [← Nat.pow_add]
 congr 1
 omega
end
end Merge
namespace Infl
def cp (d:Nat):Nat→List Nat→List Nat
 | 0,P=>P
 | k+1,P=>cp d k P++[(cp d k P).getD ((cp d k P).length - d) 0]
theorem cp_length (d:Nat) (P:List Nat):∀ k,(cp d k P).length=P.length+k
 | 0=>rfl
 | k+1=>by rw [cp,List.length_append,cp_length d P k];simp;omega
structure In where
 f:Nat→Bool
 k:Nat
def In.m (I:In):Nat:=8*I.k
def Agree (I J:In) (n:Nat):Prop:=∀ i,i<n→J.f i=I.f i
theorem Agree.mono {I J:In} {n k:Nat} (h:Agree I J n) (hk:k≤n):Agree I J k:=fun i hi=>h i (by omega)
inductive Res (α:Type) where
 | ok (x:α) (at':Nat)
 | bad (e:Nat)
 | more
abbrev Rd (α:Type):=In→Nat→Res α
def Rd.pure {α:Type} (x:α):Rd α:=fun _ p=>.ok x p
def Rd.fail {α:Type} (e:Nat):Rd α:=fun _ _=>.bad e
def Rd.bind {α β:Type} (r:Rd α) (k:α→Rd β):Rd β:=fun I p=>match r I p with
 | .ok x q=>k x I q
 | .bad e=>.bad e
 | .more=>.more
def Rd.stuck {α:Type}:Rd α:=fun _ _=>.more
structure Loc {α:Type} (r:Rd α):Prop where
 le:∀ I p x q,p≤I.m→r I p=.ok x q→p≤q∧q≤I.m
 ext:∀ I J p x q,p≤I.m→r I p=.ok x q→Agree I J q→q≤J.m→r J p=.ok x q
 cut:∀ I J p x q,p≤I.m→r I p=.ok x q→Agree I J J.m→p≤J.m→J.m<q→r J p=.bad 10
 err:∀ I J p e,p≤I.m→r I p=.bad e→e≠10→Agree I J I.m→I.m≤J.m→r J p=.bad e
theorem Loc.pure {α:Type} (x:α):Loc (Rd.pure x) :=
 ⟨fun I p y q hp h=>by simp only [Rd.pure,Res.ok.injEq] at h;omega,fun I J p y q hp h _ _=>h,fun I J p y q hp h _ h1 h2=>by simp only [Rd.pure,Res.ok.injEq] at h;omega,fun I J p e hp h _ _ _=>by cases h⟩
theorem Loc.fail {α:Type} (e:Nat):Loc (Rd.fail (α:=α) e) :=
 ⟨fun I p y q hp h=>by simp [Rd.fail] at h,fun I J p y q hp h _ _=>by simp [Rd.fail] at h,fun I J p y q hp h _ _ _=>by simp [Rd.fail] at h,fun I J p e hp h _ _ _=>h⟩
theorem Loc.stuck {α:Type}:Loc (Rd.stuck (α:=α)) :=
 ⟨fun I p y q hp h=>by simp [Rd.stuck] at h,fun I J p y q hp h _ _=>by simp [Rd.stuck] at h,fun I J p y q hp h _ _ _=>by simp [Rd.stuck] at h,fun I J p e hp h _ _ _=>by cases h⟩
theorem bind_ok {α β:Type} {r:Rd α} {k:α→Rd β} {I:In} {p:Nat} {y:β} {q:Nat} (h:r.bind k I p=.ok y q):∃ x o,r I p=.ok x o∧k x I o=.ok y q:=by
 unfold Rd.bind at h
 cases hr:r I p with
 | ok x o=>rw [hr] at h;exact ⟨x,o,rfl,h⟩
 | bad e=>rw [hr] at h;cases h
 | more=>rw [hr] at h;cases h
theorem bind_of {α β:Type} {r:Rd α} {k:α→Rd β} {I:In} {p o:Nat} {x:α} (h:r I p=.ok x o):r.bind k I p=k x I o:=by unfold Rd.bind;rw [h]
theorem bind_bad {α β:Type} {r:Rd α} {k:α→Rd β} {I:In} {p e:Nat} (h:r I p=.bad e):r.bind k I p=.bad e:=by unfold Rd.bind;rw [h]
theorem Loc.bind {α β:Type} {r:Rd α} {k:α→Rd β} (h:Loc r) (hk:∀ x,Loc (k x)):Loc (r.bind k):=by
 refine ⟨fun I p y q hp e=>?_,fun I J p y q hp e ha hq=>?_,fun I J p y q hp e ha hpj hq=>?_,fun I J p e hp h0 h10 ha hm=>?_⟩
 ·obtain ⟨x,o,h1,h2⟩:=bind_ok e
  obtain ⟨l1,l2⟩:=h.le I p x o hp h1
  obtain ⟨l3,l4⟩:=(hk x).le I o y q l2 h2
  omega
 ·obtain ⟨x,o,h1,h2⟩:=bind_ok e
  obtain ⟨l1,l2⟩:=h.le I p x o hp h1
  obtain ⟨l3,l4⟩:=(hk x).le I o y q l2 h2
  rw [bind_of (h.ext I J p x o hp h1 (ha.mono l3) (by omega))]
  exact (hk x).ext I J o y q l2 h2 ha hq
 ·obtain ⟨x,o,h1,h2⟩:=bind_ok e
  obtain ⟨l1,l2⟩:=h.le I p x o hp h1
  by_cases ho:J.m<o
  ·exact bind_bad (h.cut I J p x o hp h1 ha hpj ho)
  ·rw [bind_of (h.ext I J p x o hp h1 (ha.mono (by omega)) (by omega))]
   exact (hk x).cut I J o y q l2 h2 ha (by omega) hq
 ·cases hr:r I p with
  | ok x o =>
   rw [bind_of hr] at h0
   obtain ⟨l1,l2⟩:=h.le I p x o hp hr
   rw [bind_of (h.ext I J p x o hp hr (ha.mono l2) (by omega))]
   exact (hk x).err I J o e l2 h0 h10 ha hm
  | bad e' =>
   rw [bind_bad hr] at h0
   injection h0 with h0
   subst h0
   exact bind_bad (h.err I J p e' hp hr h10 ha hm)
  | more=>simp [Rd.bind,hr] at h0
def num (f:Nat→Bool) (p:Nat):Nat→Nat
 | 0=>0
 | n+1=>num f p n+(f (p+n)).toNat*2 ^ n
theorem num_same {f g:Nat→Bool} {p:Nat}:∀ n,(∀ i,i<p+n→g i=f i)→num g p n=num f p n
 | 0,_=>rfl
 | n+1,h=>by rw [num,num,num_same n (fun i hi=>h i (by omega)),h (p+n) (by omega)]
theorem num_lt (f:Nat→Bool) (p:Nat):∀ n,num f p n<2 ^ n
 | 0=>by simp [num]
 | n+1=>by
  have:=num_lt f p n
  have h2:=Bool.toNat_le (f (p+n))
  rw [num,Nat.pow_succ]
  have:(f (p+n)).toNat*2 ^ n≤1*2 ^ n:=Nat.mul_le_mul_right _ h2
  omega
def get (n:Nat):Rd Nat:=fun I p=>if p+n≤I.m then .ok (num I.f p n) (p+n) else .bad 10
theorem Loc.get (n:Nat):Loc (get n):=by
 refine ⟨fun I p x q hp h=>?_,fun I J p x q hp h ha hq=>?_,fun I J p x q hp h ha hpj hq=>?_,fun I J p e hp h h10 ha hm=>?_⟩
 ·unfold Infl.get at h
  split at h
  ·simp only [Res.ok.injEq] at h;omega
  ·cases h
 ·unfold Infl.get at h ⊢
  split at h
  ·simp only [Res.ok.injEq] at h
   obtain ⟨rfl,rfl⟩:=h
   rw [if_pos hq,num_same n (fun i hi=>ha i hi)]
  ·cases h
 ·unfold Infl.get at h ⊢
  split at h
  ·simp only [Res.ok.injEq] at h
   rw [if_neg (by omega)]
  ·cases h
 ·unfold Infl.get at h
  split at h
  ·cases h
  ·injection h with h;omega
def align:Rd Unit:=fun _ p=>.ok () ((p+7) / 8*8)
theorem Loc.align:Loc align:=by
 refine ⟨fun I p x q hp h=>?_,fun I J p x q hp h ha hq=>?_,fun I J p x q hp h ha hpj hq=>?_,fun I J p e hp h h10 ha hm=>?_⟩
 ·simp only [Infl.align,Res.ok.injEq] at h
  unfold In.m at *
  omega
 ·simp only [Infl.align,Res.ok.injEq] at h ⊢
  exact h
 ·simp only [Infl.align,Res.ok.injEq] at h
  unfold In.m at *
  omega
 ·cases h
structure GL (g:List Nat→(Nat→Bool)→Nat→Nat × Nat × Nat):Prop where
 le:∀ ls f m s n e,g ls f m=(s,n,e)→n≤m
 loc:∀ ls f m s n f' m',g ls f m=(s,n,0)→n≤m'→(∀ i,i<n→f' i=f i)→g ls f' m'=(s,n,0)
 cut:∀ ls f m s n f' m',g ls f m=(s,n,0)→m'<n→(∀ i,i<m'→f' i=f i)→(g ls f' m').2.2=10
 err:∀ ls f m s n e f' m',g ls f m=(s,n,e)→e≠10→m≤m'→(∀ i,i<m→f' i=f i)→g ls f' m'=(s,n,e)
section
variable (g:List Nat→(Nat→Bool)→Nat→Nat × Nat × Nat) (ce:List Nat→Nat→Bool→Nat)
def word (ls:List Nat):Rd Nat:=fun I p=>match g ls (fun i=>I.f (p+i)) (I.m - p) with
 | (s,n,0)=>.ok s (p+n)
 | (_,_,e+1)=>.bad (e+1)
theorem word_ok {ls:List Nat} {I:In} {p s q:Nat} (h:word g ls I p=.ok s q):∃ n,g ls (fun i=>I.f (p+i)) (I.m - p)=(s,n,0)∧q=p+n:=by
 unfold word at h
 split at h
 ·rename_i s' n' he
  simp only [Res.ok.injEq] at h
  obtain ⟨rfl,rfl⟩:=h
  exact ⟨_,he,rfl⟩
 ·cases h
theorem Loc.word (hg:GL g) (ls:List Nat):Loc (word g ls):=by
 refine ⟨fun I p x q hp h=>?_,fun I J p x q hp h ha hq=>?_,fun I J p x q hp h ha hpj hq=>?_,fun I J p e hp h h10 ha hm=>?_⟩
 ·obtain ⟨n,h1,rfl⟩:=word_ok g h
  have:=hg.le _ _ _ _ _ _ h1
  omega
 ·obtain ⟨n,h1,rfl⟩:=word_ok g h
  have h2:=hg.loc _ _ _ _ _ (fun i=>J.f (p+i)) (J.m - p) h1 (by omega) (fun i hi=>ha (p+i) (by omega))
  unfold Infl.word
  rw [h2]
 ·obtain ⟨n,h1,rfl⟩:=word_ok g h
  have h2:=hg.cut _ _ _ _ _ (fun i=>J.f (p+i)) (J.m - p) h1 (by omega) (fun i hi=>ha (p+i) (by omega))
  unfold Infl.word
  rcases hr:g ls (fun i=>J.f (p+i)) (J.m - p) with ⟨s',n',e'⟩
  rw [hr] at h2
  simp only at h2
  subst h2
  rfl
 ·rcases hr:g ls (fun i=>I.f (p+i)) (I.m - p) with ⟨s',n',e'⟩
  unfold Infl.word at h
  rw [hr] at h
  cases e' with
  | zero=>cases h
  | succ e' =>
   injection h with h
   have h2:=hg.err _ _ _ _ _ _ (fun i=>J.f (p+i)) (J.m - p) hr (by omega) (by omega) (fun i hi=>ha (p+i) (by omega))
   unfold Infl.word
   rw [h2,← h]
def lenOf (s:Nat):Nat × Nat:=if s - 257<8 then (3+(s - 257),0) else if s - 257=28 then (258,0) else (3+(4+(s - 257) % 4)*2 ^ ((s - 257) / 4 - 1),(s - 257) / 4 - 1)
def distOf (d:Nat):Nat × Nat:=if d<4 then (1+d,0) else (1+(2+d % 2)*2 ^ (d / 2 - 1),d / 2 - 1)
def tok (lits dists:List Nat) (most:Nat) (out:List Nat):Rd (Option (List Nat)) :=
 (word g lits).bind fun s =>
  if s=256 then Rd.pure none
  else if s<256 then (if most≤out.length then Rd.fail 3 else Rd.pure (some (out++[s])))
  else if 285<s then Rd.fail 11
  else (get (lenOf s).2).bind fun x=>(word g dists).bind fun d =>
   if 29<d then Rd.fail 11 else (get (distOf d).2).bind fun y =>
    if out.length<(distOf d).1+y then Rd.fail 14
    else if most<out.length+((lenOf s).1+x) then Rd.fail 3
    else Rd.pure (some (cp ((distOf d).1+y) ((lenOf s).1+x) out))
def toks (lits dists:List Nat) (most:Nat):Nat→List Nat→Rd (List Nat)
 | 0,_=>Rd.stuck
 | k+1,out=>(tok g lits dists most out).bind fun o=>match o with
  | none=>Rd.pure out
  | some out'=>toks lits dists most k out'
def bytes:Nat→List Nat→Rd (List Nat)
 | 0,out=>Rd.pure out
 | n+1,out=>(get 8).bind fun b=>bytes n (out++[b])
def stored (most:Nat) (out:List Nat):Rd (List Nat) :=
 align.bind fun _=>(get 16).bind fun n=>(get 16).bind fun m =>
  if m≠65535 - n then Rd.fail 11 else if most<out.length+n then Rd.fail 3 else bytes n out
def threes:Nat→List Nat→Rd (List Nat)
 | 0,l=>Rd.pure l
 | k+1,l=>(get 3).bind fun v=>threes k (l++[v])
def order:List Nat:=[16,17,18,0,8,7,9,6,10,5,11,4,12,3,13,2,14,1,15]
def ownOf (vs:List Nat):List Nat:=(List.range 19).map fun j=>vs.getD (order.idxOf j) 0
def lens (own:List Nat) (tot:Nat):Nat→List Nat→Rd (List Nat)
 | 0,all=>if tot≤all.length then Rd.pure all else Rd.stuck
 | k+1,all=>if tot≤all.length then Rd.pure all else
  (word g own).bind fun s =>
   if s=16 then (get 2).bind fun x=>if all=[] then Rd.fail 11 else if tot<all.length+(3+x) then Rd.fail 11 else lens own tot k (all++List.replicate (3+x) (all.getD (all.length - 1) 0))
   else if s=17 then (get 3).bind fun x=>if tot<all.length+(3+x) then Rd.fail 11 else lens own tot k (all++List.replicate (3+x) 0)
   else if s=18 then (get 7).bind fun x=>if tot<all.length+(11+x) then Rd.fail 11 else lens own tot k (all++List.replicate (11+x) 0)
   else lens own tot k (all++[s])
def okE {α:Type} (e:Nat) (r:Rd α):Rd α:=if e=0 then r else Rd.fail e
def told (most fuel:Nat) (out:List Nat):Rd (List Nat) :=
 (get 5).bind fun l=>(get 5).bind fun d=>(get 4).bind fun k =>
  if 286<l+257∨30<d+1 then Rd.fail 11
  else (threes (k+4) []).bind fun vs=>okE (ce (ownOf vs) 7 false) ((lens g (ownOf vs) (l+257+(d+1)) (l+257+(d+1)) []).bind fun all =>
   if all.getD 256 0=0 then Rd.fail 11
   else okE (ce (all.take (l+257)) 15 true) (okE (ce (all.drop (l+257)) 15 true) (toks g (all.take (l+257)) (all.drop (l+257)) most fuel out)))
def fixedL:List Nat:=(List.range 288).map fun i=>if 144≤i∧i<256 then 9 else if 256≤i∧i<280 then 7 else 8
def fixedD:List Nat:=List.replicate 32 5
def block (most fuel:Nat) (out:List Nat):Rd (Nat × List Nat) :=
 (get 1).bind fun last=>(get 2).bind fun kind =>
  (if kind=0 then stored most out else if kind=1 then toks g fixedL fixedD most fuel out else if kind=2 then told g ce most fuel out else Rd.fail 16).bind fun o=>Rd.pure (last,o)
def blocks (most fuel:Nat):Nat→List Nat→Rd (List Nat)
 | 0,_=>Rd.stuck
 | k+1,out=>(block g ce most fuel out).bind fun r=>if r.1=1 then Rd.pure r.2 else blocks most fuel k r.2
theorem Loc.ite {α:Type} {c:Prop} [Decidable c] {r r':Rd α} (h:Loc r) (h':Loc r'):Loc (if c then r else r'):=by
 split
 ·exact h
 ·exact h'
variable {g ce}
theorem Loc.tok (hg:GL g) (lits dists:List Nat) (most:Nat) (out:List Nat):Loc (tok g lits dists most out) :=
 (Loc.word g hg lits).bind fun s=>.ite (.pure _) (.ite (.ite (.fail _) (.pure _)) (.ite (.fail _) ((Loc.get _).bind fun x=>(Loc.word g hg dists).bind fun d=>.ite (.fail _) ((Loc.get _).bind fun y=>.ite (.fail _) (.ite (.fail _) (.pure _))))))
theorem Loc.toks (hg:GL g) (lits dists:List Nat) (most:Nat):∀ k out,Loc (toks g lits dists most k out)
 | 0,_=>.stuck
 | k+1,out=>(Loc.tok hg lits dists most out).bind fun o=>match o with
  | none=>.pure _
  | some o'=>Loc.toks hg lits dists most k o'
theorem Loc.bytes:∀ n out,Loc (bytes n out)
 | 0,out=>.pure _
 | n+1,out=>(Loc.get 8).bind fun b=>Loc.bytes n _
theorem Loc.stored (most:Nat) (out:List Nat):Loc (stored most out) :=
 Loc.align.bind fun _=>(Loc.get 16).bind fun n=>(Loc.get 16).bind fun m=>.ite (.fail _) (.ite (.fail _) (Loc.bytes n out))
theorem Loc.threes:∀ k l,Loc (threes k l)
 | 0,l=>.pure _
 | k+1,l=>(Loc.get 3).bind fun v=>Loc.threes k _
theorem Loc.lens (hg:GL g) (own:List Nat) (tot:Nat):∀ k all,Loc (lens g own tot k all)
 | 0,all=>.ite (.pure _) .stuck
 | k+1,all=>.ite (.pure _) ((Loc.word g hg own).bind fun s=>.ite ((Loc.get 2).bind fun x=>.ite (.fail _) (.ite (.fail _) (Loc.lens hg own tot k _)))
   (.ite ((Loc.get 3).bind fun x=>.ite (.fail _) (Loc.lens hg own tot k _)) (.ite ((Loc.get 7).bind fun x=>.ite (.fail _) (Loc.lens hg own tot k _)) (Loc.lens hg own tot k _))))
theorem Loc.okE {α:Type} (e:Nat) {r:Rd α} (h:Loc r):Loc (okE e r):=.ite h (.fail _)
theorem Loc.told (hg:GL g) (most fuel:Nat) (out:List Nat):Loc (told g ce most fuel out) :=
 (Loc.get 5).bind fun l=>(Loc.get 5).bind fun d=>(Loc.get 4).bind fun k=>.ite (.fail _) ((Loc.threes _ _).bind fun vs=>.okE _ ((Loc.lens hg _ _ _ _).bind fun all=>.ite (.fail _) (.okE _ (.okE _ (Loc.toks hg _ _ most fuel out)))))
theorem Loc.block (hg:GL g) (most fuel:Nat) (out:List Nat):Loc (block g ce most fuel out) :=
 (Loc.get 1).bind fun last=>(Loc.get 2).bind fun kind=>(Loc.ite (Loc.stored most out) (.ite (Loc.toks hg _ _ most fuel out) (.ite (Loc.told hg most fuel out) (.fail _)))).bind fun o=>.pure _
theorem Loc.blocks (hg:GL g) (most fuel:Nat):∀ k out,Loc (blocks g ce most fuel k out)
 | 0,_=>.stuck
 | k+1,out=>(Loc.block hg most fuel out).bind fun r=>.ite (.pure _) (Loc.blocks hg most fuel k r.2)
end
end Infl
namespace Infl
def Up {α:Type} (r r':Rd α):Prop:=∀ I p,r I p≠.more→r' I p=r I p
theorem Up.refl {α:Type} (r:Rd α):Up r r:=fun _ _ _=>rfl
theorem Up.stuck {α:Type} (r:Rd α):Up (Rd.stuck (α:=α)) r:=fun _ _ h=>absurd rfl h
theorem Up.ite {α:Type} {c:Prop} [Decidable c] {r r' s s':Rd α} (h:Up r r') (h':Up s s'):Up (if c then r else s) (if c then r' else s'):=by
 split
 ·exact h
 ·exact h'
theorem Up.bind {α β:Type} {r r':Rd α} {k k':α→Rd β} (h:Up r r') (hk:∀ x,Up (k x) (k' x)):Up (r.bind k) (r'.bind k'):=fun I p hne=>by
 unfold Rd.bind at hne ⊢
 cases hr:r I p with
 | ok x q =>
  rw [hr] at hne
  rw [h I p (by rw [hr];simp),hr]
  exact hk x I q hne
 | bad e=>rw [h I p (by rw [hr];simp),hr]
 | more=>rw [hr] at hne;exact absurd rfl hne
section
variable {g:List Nat→(Nat→Bool)→Nat→Nat × Nat × Nat} {ce:List Nat→Nat→Bool→Nat}
theorem Up.toks (lits dists:List Nat) (most:Nat):∀ k k' out,k≤k'→Up (toks g lits dists most k out) (toks g lits dists most k' out)
 | 0,k',out,_=>Up.stuck _
 | k+1,0,out,h=>by omega
 | k+1,k'+1,out,h=>(Up.refl _).bind fun o=>match o with
  | none=>Up.refl _
  | some o'=>Up.toks lits dists most k k' o' (by omega)
theorem Up.told (most f f':Nat) (out:List Nat) (h:f≤f'):Up (told g ce most f out) (told g ce most f' out) :=
 (Up.refl _).bind fun l=>(Up.refl _).bind fun d=>(Up.refl _).bind fun k=>.ite (.refl _) ((Up.refl _).bind fun vs=>.ite ((Up.refl _).bind fun all=>.ite (.refl _) (.ite (.ite (Up.toks _ _ _ _ _ _ h) (.refl _)) (.refl _))) (.refl _))
theorem Up.block (most f f':Nat) (out:List Nat) (h:f≤f'):Up (block g ce most f out) (block g ce most f' out) :=
 (Up.refl _).bind fun last=>(Up.refl _).bind fun kind=>(Up.ite (.refl _) (.ite (Up.toks _ _ _ _ _ _ h) (.ite (Up.told _ _ _ _ h) (.refl _)))).bind fun o=>.refl _
theorem Up.blocks (most f f':Nat) (h:f≤f'):∀ k k' out,k≤k'→Up (blocks g ce most f k out) (blocks g ce most f' k' out)
 | 0,k',out,_=>Up.stuck _
 | k+1,0,out,h=>by omega
 | k+1,k'+1,out,hk=>(Up.block most f f' out h).bind fun r=>.ite (.refl _) (Up.blocks most f f' h k k' r.2 (by omega))
variable (g ce)
def Tells (I:In) (most:Nat) (r:Res (List Nat)):Prop:=r≠.more∧∃ f k,blocks g ce most f k [] I 0=r
variable {g ce}
theorem Tells.one {I:In} {most:Nat} {r r':Res (List Nat)} (h:Tells g ce I most r) (h':Tells g ce I most r'):r=r':=by
 obtain ⟨h1,f,k,e⟩:=h
 obtain ⟨h1',f',k',e'⟩:=h'
 have a:=Up.blocks (g:=g) (ce:=ce) most f (max f f') (by omega) k (max k k') [] (by omega) I 0 (by rw [e];exact h1)
 have b:=Up.blocks (g:=g) (ce:=ce) most f' (max f f') (by omega) k' (max k k') [] (by omega) I 0 (by rw [e'];exact h1')
 rw [← e,← e',← a,← b]
theorem Tells.le (hg:GL g) {I:In} {most q:Nat} {out:List Nat} (h:Tells g ce I most (.ok out q)):q≤I.m:=by
 obtain ⟨_,f,k,e⟩:=h
 exact ((Loc.blocks hg most f k []).le I 0 out q (Nat.zero_le _) e).2
theorem Tells.ext (hg:GL g) {I J:In} {most q:Nat} {out:List Nat} (h:Tells g ce I most (.ok out q)) (ha:Agree I J q) (hq:q≤J.m):Tells g ce J most (.ok out q):=by
 obtain ⟨h1,f,k,e⟩:=h
 exact ⟨h1,f,k,(Loc.blocks hg most f k []).ext I J 0 out q (Nat.zero_le _) e ha hq⟩
theorem Tells.err (hg:GL g) {I J:In} {most e:Nat} (h:Tells g ce I most (.bad e)) (h10:e≠10) (ha:Agree I J I.m) (hm:I.m≤J.m):Tells g ce J most (.bad e):=by
 obtain ⟨h1,f,k,e'⟩:=h
 exact ⟨h1,f,k,(Loc.blocks hg most f k []).err I J 0 e (Nat.zero_le _) e' h10 ha hm⟩
theorem okE_of {α:Type} {e:Nat} (r:Rd α) (h:e=0):okE e r=r:=if_pos h
end
end Infl
namespace Infl
def kf (f:Nat→Bool):Nat→Nat
 | 0=>1
 | n+1=>2*kf f n+(f n).toNat
theorem kf_same {f h:Nat→Bool}:∀ n,(∀ i,i<n→h i=f i)→kf h n=kf f n
 | 0,_=>rfl
 | n+1,e=>by rw [kf,kf,kf_same n (fun i hi=>e i (by omega)),e n (by omega)]
def GetP (W:Nat→Nat→Prop) (B:Nat→Prop) (f:Nat→Bool) (m s n e:Nat):Prop :=
 n≤m∧(∀ j,1≤j→j<n→B (kf f j)∧∀ i,¬ W i (kf f j)) ∧
 ((e=0∧1≤n∧W s (kf f n))∨(e=11∧s=0∧1≤n∧¬ B (kf f n))∨(e=10∧s=0∧n=m∧(1≤n→B (kf f n)∧∀ i,¬ W i (kf f n))))
variable {W:Nat→Nat→Prop} {B:Nat→Prop}
theorem GetP.has (W:Nat→Nat→Prop) (B:Nat→Prop) (f:Nat→Bool):∀ m,∃ s n e,GetP W B f m s n e:=by
 have key:∀ d m n,m - n=d→n≤m→(∀ j,1≤j→j≤n→B (kf f j)∧∀ i,¬ W i (kf f j))→∃ s n e,GetP W B f m s n e:=by
  intro d
  induction d with
  | zero =>
   intro m n hd hn h
   have e:n=m:=by omega
   subst e
   exact ⟨0,n,10,Nat.le_refl _,fun j h1 h2=>h j h1 (by omega),.inr (.inr ⟨rfl,rfl,rfl,fun h1=>h n h1 (Nat.le_refl _)⟩)⟩
  | succ d ih =>
   intro m n hd hn h
   by_cases hw:∃ s,W s (kf f (n+1))
   ·obtain ⟨s,hw⟩:=hw
    exact ⟨s,n+1,0,by omega,fun j h1 h2=>h j h1 (by omega),.inl ⟨rfl,by omega,hw⟩⟩
   ·by_cases hb:B (kf f (n+1))
    ·refine ih m (n+1) (by omega) (by omega) (fun j h1 h2=>?_)
     by_cases e:j=n+1
     ·subst e;exact ⟨hb,fun i hi=>hw ⟨i,hi⟩⟩
     ·exact h j h1 (by omega)
    ·exact ⟨0,n+1,11,by omega,fun j h1 h2=>h j h1 (by omega),.inr (.inl ⟨rfl,rfl,by omega,hb⟩)⟩
 exact fun m=>key (m - 0) m 0 rfl (Nat.zero_le _) (fun j h1 h2=>by omega)
theorem GetP.stop (hwb:∀ s k,W s k→B k) {f:Nat→Bool} {m s n e s' n' e':Nat} (h:GetP W B f m s n e) (h':GetP W B f m s' n' e'):¬ n<n':=by
 intro hlt
 obtain ⟨h1,_,h3⟩:=h
 obtain ⟨k1,k2,_⟩:=h'
 rcases h3 with ⟨_,hn,hw⟩ | ⟨_,_,hn,hb⟩ | ⟨_,_,hn,_⟩
 ·exact (k2 n hn hlt).2 _ hw
 ·exact hb (k2 n hn hlt).1
 ·omega
theorem GetP.one (hone:∀ s s' k,W s k→W s' k→s=s') (hwb:∀ s k,W s k→B k) {f:Nat→Bool} {m s n e s' n' e':Nat} (h:GetP W B f m s n e) (h':GetP W B f m s' n' e'):s=s'∧n=n'∧e=e':=by
 have hn:n=n':=by have:=h.stop hwb h';have:=h'.stop hwb h;omega
 subst hn
 have r:=h.2.2
 have r':=h'.2.2
 rcases r with ⟨rfl,q1,q2⟩ | ⟨rfl,rfl,q1,q2⟩ | ⟨rfl,rfl,q1,q2⟩ <;> rcases r' with ⟨rfl,p1,p2⟩ | ⟨rfl,rfl,p1,p2⟩ | ⟨rfl,rfl,p1,p2⟩
 ·exact ⟨hone _ _ _ q2 p2,rfl,rfl⟩
 ·exact absurd (hwb _ _ q2) p2
 ·exact absurd q2 ((p2 q1).2 _)
 ·exact absurd (hwb _ _ p2) q2
 ·exact ⟨rfl,rfl,rfl⟩
 ·exact absurd (p2 q1).1 q2
 ·exact absurd p2 ((q2 p1).2 _)
 ·exact absurd (q2 p1).1 p2
 ·exact ⟨rfl,rfl,rfl⟩
theorem GetP.ext {f f':Nat→Bool} {m m' s n e:Nat} (h:GetP W B f m s n e) (he:e≠10) (hm:n≤m') (ha:∀ i,i<n→f' i=f i):GetP W B f' m' s n e:=by
 obtain ⟨h1,h2,h3⟩:=h
 have k:∀ j,j≤n→kf f' j=kf f j:=fun j hj=>kf_same j (fun i hi=>ha i (by omega))
 refine ⟨hm,fun j j1 j2=>by rw [k j (by omega)];exact h2 j j1 j2,?_⟩
 rw [k n (Nat.le_refl _)]
 rcases h3 with h | h | ⟨e10,_⟩
 ·exact .inl h
 ·exact .inr (.inl h)
 ·exact absurd e10 he
theorem GetP.cut {f f':Nat→Bool} {m m' s n:Nat} (h:GetP W B f m s n 0) (hm:m'<n) (ha:∀ i,i<m'→f' i=f i):GetP W B f' m' 0 m' 10:=by
 obtain ⟨h1,h2,h3⟩:=h
 have k:∀ j,j≤m'→kf f' j=kf f j:=fun j hj=>kf_same j (fun i hi=>ha i (by omega))
 exact ⟨Nat.le_refl _,fun j j1 j2=>by rw [k j (by omega)];exact h2 j j1 (by omega),.inr (.inr ⟨rfl,rfl,rfl,fun m1=>by rw [k m' (Nat.le_refl _)];exact h2 m' m1 hm⟩)⟩
structure CP (good:List Nat→Prop) (W:List Nat→Nat→Nat→Prop) (B:List Nat→Nat→Prop):Prop where
 one:∀ ls,good ls→∀ s s' k,W ls s k→W ls s' k→s=s'
 beg:∀ ls,good ls→∀ s k,W ls s k→B ls k
open Classical in
noncomputable def gof (good:List Nat→Prop) (W:List Nat→Nat→Nat→Prop) (B:List Nat→Nat→Prop) (ls:List Nat) (f:Nat→Bool) (m:Nat):Nat × Nat × Nat :=
 if h:good ls then (Classical.choose (GetP.has (W ls) (B ls) f m),Classical.choose (Classical.choose_spec (GetP.has (W ls) (B ls) f m)),Classical.choose (Classical.choose_spec (Classical.choose_spec (GetP.has (W ls) (B ls) f m)))) else (0,0,11)
theorem gof_is {good:List Nat→Prop} {W:List Nat→Nat→Nat→Prop} {B:List Nat→Nat→Prop} {ls:List Nat} (h:good ls) (f:Nat→Bool) (m:Nat):GetP (W ls) (B ls) f m (gof good W B ls f m).1 (gof good W B ls f m).2.1 (gof good W B ls f m).2.2:=by
 unfold gof
 rw [dif_pos h]
 exact Classical.choose_spec (Classical.choose_spec (Classical.choose_spec (GetP.has (W ls) (B ls) f m)))
theorem gof_eq {good:List Nat→Prop} {W:List Nat→Nat→Nat→Prop} {B:List Nat→Nat→Prop} (hc:CP good W B) {ls:List Nat} (h:good ls) {f:Nat→Bool} {m s n e:Nat} (hp:GetP (W ls) (B ls) f m s n e):gof good W B ls f m=(s,n,e):=by
 obtain ⟨h1,h2,h3⟩:=(gof_is (W:=W) (B:=B) h f m).one (hc.one ls h) (hc.beg ls h) hp
 exact Prod.ext h1 (Prod.ext h2 h3)
theorem gof_gl {good:List Nat→Prop} {W:List Nat→Nat→Nat→Prop} {B:List Nat→Nat→Prop} (hc:CP good W B):GL (gof good W B):=by
 refine ⟨fun ls f m s n e h=>?_,fun ls f m s n f' m' h hm ha=>?_,fun ls f m s n f' m' h hm ha=>?_,fun ls f m s n e f' m' h he hm ha=>?_⟩
 ·by_cases hg:good ls
  ·have:=(gof_is (W:=W) (B:=B) hg f m).1
   rw [h] at this
   exact this
  ·unfold gof at h
   rw [dif_neg hg] at h
   simp only [Prod.mk.injEq] at h
   omega
 ·by_cases hg:good ls
  ·have h1:=gof_is (W:=W) (B:=B) hg f m
   rw [h] at h1
   exact gof_eq hc hg (GetP.ext (e:=0) h1 (by decide) hm ha)
  ·unfold gof at h
   rw [dif_neg hg] at h
   simp only [Prod.mk.injEq] at h
   omega
 ·by_cases hg:good ls
  ·have h1:=gof_is (W:=W) (B:=B) hg f m
   rw [h] at h1
   rw [gof_eq hc hg (GetP.cut h1 hm ha)]
  ·unfold gof at h
   rw [dif_neg hg] at h
   simp only [Prod.mk.injEq] at h
   omega
 ·by_cases hg:good ls
  ·have h1:=gof_is (W:=W) (B:=B) hg f m
   rw [h] at h1
   exact gof_eq hc hg (GetP.ext h1 he (by have:=h1.1;simp only at this;omega) (fun i hi=>ha i (by have:=h1.1;simp only at this;omega)))
  ·unfold gof at h ⊢
   rw [dif_neg hg] at h ⊢
   exact h
end Infl
namespace Infl
def bitsOf (l:List Nat):In:=⟨fun i=>(l.getD (i / 8) 0).testBit (i % 8),l.length⟩
theorem bitsOf_m (l:List Nat):(bitsOf l).m=8*l.length:=rfl
theorem num_test (f:Nat→Bool) (p b:Nat):∀ n,(∀ i,i<n→f (p+i)=b.testBit i)→num f p n=b % 2 ^ n
 | 0,_=>by simp [num,Nat.mod_one]
 | n+1,h=>by
  rw [num,num_test f p b n (fun i hi=>h i (by omega)),h n (by omega),Nat.testBit_eq_decide_div_mod_eq]
  rw [Nat.pow_succ,Nat.mod_mul]
  have:b / 2 ^ n % 2<2:=Nat.mod_lt _ (by decide)
  by_cases e:b / 2 ^ n % 2=1
  ·rw [e];simp
  ·have e0:b / 2 ^ n % 2=0:=by omega
   rw [e0];simp
theorem num_byte (l:List Nat) (j b n:Nat) (hb:l[j]?=some b) (hn:n≤8):num (bitsOf l).f (8*j) n=b % 2 ^ n:=by
 refine num_test _ _ b n (fun i hi=>?_)
 have e1:(8*j+i) / 8=j:=by omega
 have e2:(8*j+i) % 8=i:=by omega
 simp only [bitsOf,e1,e2,List.getD,hb,Option.getD_some]
theorem get8 (l:List Nat) (j b:Nat) (hb:l[j]?=some b) (h:b<256):get 8 (bitsOf l) (8*j)=.ok b (8*(j+1)):=by
 have hj:j<l.length:=by
  rcases Nat.lt_or_ge j l.length with h | h
  ·exact h
  ·rw [List.getElem?_eq_none h] at hb;cases hb
 unfold get
 rw [bitsOf_m,if_pos (by omega),num_byte l j b 8 hb (by decide),Nat.mod_eq_of_lt (by omega)]
 rfl
theorem bytes_at (l:List Nat):∀ (c:List Nat) (j:Nat) (out:List Nat) ,(∀ i,i<c.length→l[j+i]?=c[i]?)→(∀ x,x∈c→x<256)→bytes c.length out (bitsOf l) (8*j)=.ok (out++c) (8*(j+c.length))
 | [],j,out,_,_=>by simp [bytes,Rd.pure]
 | x :: c,j,out,h,hx=>by
  have h0:=h 0 (by simp)
  rw [List.length_cons,bytes,bind_of (get8 l j x (by simpa using h0) (hx x (by simp)))]
  rw [bytes_at l c (j+1) (out++[x]) (fun i hi=>?_) (fun y hy=>hx y (by simp [hy]))]
  ·rw [List.append_assoc,List.singleton_append,show j+1+c.length=j+(c.length+1) from by omega]
  ·have:=h (i+1) (by simp;omega)
   rw [show j+1+i=j+(i+1) from by omega,this]
   rfl
def blk (last:Nat) (c:List Nat):List Nat:=[last,c.length % 256,c.length / 256,255 - c.length % 256,255 - c.length / 256]++c
section
variable {g:List Nat→(Nat→Bool)→Nat→Nat × Nat × Nat} {ce:List Nat→Nat→Bool→Nat}
def pack:List (List Nat)→List Nat
 | []=>[]
 | [c]=>blk 1 c
 | c :: d :: cs=>blk 0 c++pack (d :: cs)
end
end Infl
section
def kf (f:Nat→Bool):Nat→Nat
 | 0=>1
 | n+1=>2*kf f n+(f n).toNat
theorem kf_pos (f:Nat→Bool):∀ n,1≤kf f n
 | 0=>Nat.le_refl _
 | n+1=>by have:=kf_pos f n;rw [kf];omega
theorem kf_two (f:Nat→Bool) (n:Nat) (h:1≤n):2≤kf f n:=by
 obtain ⟨m,rfl⟩:∃ m,n=m+1:=⟨n - 1,by omega⟩
 have:=kf_pos f m
 rw [kf];omega
def Pre (ls:List Nat) (k:Nat):Prop:=Beg ls ls.length k∧∀ i,¬ Wrd ls ls.length i k
def GetIs (ls:List Nat) (f:Nat→Bool) (m:Nat) (s n e:Nat):Prop :=
 n≤m∧(∀ j,1≤j→j<n→Pre ls (kf f j)) ∧
 ((e=0∧1≤n∧Wrd ls ls.length s (kf f n))∨(e=11∧s=0∧1≤n∧¬ Beg ls ls.length (kf f n))∨(e=10∧s=0∧n=m∧(1≤n→Pre ls (kf f n))))
theorem Wrd.beg {ls:List Nat} {i k:Nat} (h:Wrd ls ls.length i k):Beg ls ls.length k:=.inr ⟨i,h.1,h.2.1,0,by omega,by rw [← h.2.2];simp⟩
theorem Wrd.one {ls:List Nat} (hg:Good ls) {i j k:Nat} (h:Wrd ls ls.length i k) (h':Wrd ls ls.length j k):i=j:=by
 have:=hg.free (d:=0) h.1 h.2.1 h'.1 h'.2.1 (by omega) (by rw [h.2.2,Nat.pow_zero,Nat.div_one,h'.2.2])
 exact this.1
theorem Pre.child {ls:List Nat} {k:Nat} (hg:Good ls) (h:Pre ls k) (hne:k=1→∃ i,i<ls.length∧0<Canon.ln ls i):∃ b,b≤1∧Beg ls ls.length (2*k+b):=by
 obtain ⟨hb,hw⟩:=h
 have core:∀ i,i<ls.length→0<Canon.ln ls i→∀ d,d≤Canon.ln ls i→key ls i / 2 ^ d=k→∃ b,b≤1∧Beg ls ls.length (2*k+b):=by
  intro i h1 h2 d h3 h4
  rcases d with _ | d
  ·exact absurd ⟨h1,h2,by simpa using h4⟩ (hw i)
  ·refine ⟨key ls i / 2 ^ d % 2,by omega,.inr ⟨i,h1,h2,d,by omega,?_⟩⟩
   have:=div_div_succ (key ls i) d
   rw [h4] at this
   omega
 rcases hb with rfl | ⟨i,h1,h2,d,h3,h4⟩
 ·obtain ⟨i,h1,h2⟩:=hne rfl
  exact core i h1 h2 _ (Nat.le_refl _) (key_top (Canon.wd_lt (hg.has h1 h2) hg.sum))
 ·exact core i h1 h2 d h3 h4
theorem kf_eq (f:Nat→Bool) (W N:Nat) (hW:W<2 ^ N) (h:∀ j,j<N→f j=W.testBit (N - 1 - j)):∀ n,n≤N→kf f n=(2 ^ N+W) / 2 ^ (N - n)
 | 0,_=>by rw [kf,Nat.sub_zero,key_div (Nat.le_refl _),Nat.sub_self,Nat.div_eq_of_lt hW]
 | n+1,hn=>by
  rw [kf,kf_eq f W N hW h n (by omega),h n (by omega),key_div (by omega),key_div (by omega)]
  have e1:N - n=(N - (n+1))+1:=by omega
  have e2:=div_div_succ W (N - (n+1))
  have e3:(W.testBit (N - 1 - n)).toNat=W / 2 ^ (N - (n+1)) % 2:=by
   rw [show N - 1 - n=N - (n+1) by omega,Nat.testBit_eq_decide_div_mod_eq]
   have:W / 2 ^ (N - (n+1)) % 2<2:=Nat.mod_lt _ (by omega)
   by_cases e:W / 2 ^ (N - (n+1)) % 2=1
   ·simp [e]
   ·simp [e];omega
  rw [e3,e1,← e2,show N - (N - (n+1)+1)=n by omega,show N - (N - (n+1))=n+1 by omega,Nat.pow_succ]
  omega
theorem GetIs.word {ls:List Nat} (hg:Good ls) {f:Nat→Bool} {m i:Nat} (hi:i<ls.length) (h0:0<Canon.ln ls i) (hm:Canon.ln ls i≤m) (h:∀ j,j<Canon.ln ls i→f j=(Canon.wd ls i).testBit (Canon.ln ls i - 1 - j)) :
  GetIs ls f m i (Canon.ln ls i) 0:=by
 have hw:=Canon.wd_lt (hg.has hi h0) hg.sum
 have hk:=kf_eq f (Canon.wd ls i) (Canon.ln ls i) hw h
 refine ⟨hm,fun j h1 h2=>⟨?_,fun s hs=>?_⟩,.inl ⟨rfl,h0,hi,h0,?_⟩⟩
 ·exact .inr ⟨i,hi,h0,Canon.ln ls i - j,by omega,by rw [hk j (by omega)];rfl⟩
 ·have e:key ls i / 2 ^ (Canon.ln ls i - j)=key ls s:=by rw [hs.2.2,hk j (by omega)];rfl
  have:=hg.free hs.1 hs.2.1 hi h0 (by omega) e
  omega
 ·rw [hk _ (Nat.le_refl _),Nat.sub_self];simp [key]
end
namespace Infl
abbrev WW (ls:List Nat) (s k:Nat):Prop:=Wrd ls ls.length s k
abbrev BB (ls:List Nat) (k:Nat):Prop:=Beg ls ls.length k
theorem code_cp:CP Good WW BB:=⟨fun ls hg s s' k h h'=>Wrd.one hg h h',fun ls hg s k h=>Wrd.beg h⟩
noncomputable def gg:List Nat→(Nat→Bool)→Nat→Nat × Nat × Nat:=gof Good WW BB
theorem gg_gl:GL gg:=gof_gl code_cp
theorem kf_kf (f:Nat→Bool):∀ n,Infl.kf f n=YtabeanealkopbaaGreat.kf f n
 | 0=>rfl
 | n+1=>by rw [Infl.kf,YtabeanealkopbaaGreat.kf,kf_kf f n]
theorem gg_of {ls:List Nat} (hg:Good ls) {f:Nat→Bool} {m s n e:Nat} (h:GetIs ls f m s n e):gg ls f m=(s,n,e):=by
 refine gof_eq code_cp hg ?_
 obtain ⟨h1,h2,h3⟩:=h
 refine ⟨h1,fun j j1 j2=>?_,?_⟩
 ·rw [kf_kf];exact h2 j j1 j2
 ·rw [kf_kf];exact h3
theorem fixedL_good:Good fixedL:=⟨by decide +kernel,by decide +kernel⟩
theorem fixedD_good:Good fixedD:=⟨by decide +kernel,by decide +kernel⟩
theorem fixedL_full:Canon.sum fixedL=1048576:=by decide +kernel
theorem fixedD_full:Canon.sum fixedD=1048576:=by decide +kernel
theorem word_is {ls:List Nat} (hg:Good ls) {I:In} {p i n:Nat} (hi:i<ls.length) (hn:Canon.ln ls i=n) (h0:0<n) (hm:p+n≤I.m) (h:∀ j,j<n→I.f (p+j)=(Canon.wd ls i).testBit (n - 1 - j)) :
  word gg ls I p=.ok i (p+n):=by
 subst hn
 unfold word
 rw [gg_of hg (GetIs.word hg hi h0 (m:=I.m - p) (f:=fun i=>I.f (p+i)) (by omega) h)]
end Infl
namespace Infl
theorem cp_add (d a:Nat) (P:List Nat):∀ b,cp d (a+b) P=cp d b (cp d a P)
 | 0=>rfl
 | b+1=>by rw [← Nat.add_assoc,cp,cp,cp_add d a P b]
theorem getD_app_left (A B:List Nat) (i:Nat) (h:i<A.length):(A++B).getD i 0=A.getD i 0:=by
 simp only [List.getD_eq_getElem?_getD]
 rw [List.getElem?_append_left h]
theorem getD_app_right (A B:List Nat) (i:Nat):(A++B).getD (A.length+i) 0=B.getD i 0:=by
 simp only [List.getD_eq_getElem?_getD]
 rw [List.getElem?_append_right (by omega),Nat.add_sub_cancel_left]
theorem cp_old (d:Nat) (P:List Nat):∀ k i,i<P.length→(cp d k P).getD i 0=P.getD i 0
 | 0,_,_=>rfl
 | k+1,i,h=>by
  rw [cp,getD_app_left _ _ _ (by rw [cp_length];omega)]
  exact cp_old d P k i h
theorem mod_less {k d:Nat} (h:d≤k):(k - d) % d=k % d:=by
 conv=>rhs;rw [show k=(k - d)+d by omega]
 rw [Nat.add_mod_right]
theorem cp_new {d:Nat} {P:List Nat} (hd:1≤d) (hp:d≤P.length):∀ k i,i<k→(cp d k P).getD (P.length+i) 0=P.getD (P.length - d+i % d) 0
 | 0,_,h=>by omega
 | k+1,i,h=>by
  by_cases e:i=k
  ·subst e
   have h1:(cp d i P).length=P.length+i:=cp_length d P i
   rw [cp,← h1,show (cp d i P).length=(cp d i P).length+0 from rfl,getD_app_right]
   show (cp d i P).getD ((cp d i P).length - d) 0=_
   rw [h1]
   by_cases hk:i<d
   ·rw [show P.length+i - d=P.length - d+i by omega,cp_old d P i _ (by omega),Nat.mod_eq_of_lt hk]
   ·rw [show P.length+i - d=P.length+(i - d) by omega,cp_new hd hp i (i - d) (by omega),mod_less (by omega)]
  ·rw [cp,getD_app_left _ _ _ (by rw [cp_length];omega)]
   exact cp_new hd hp k i (by omega)
theorem cp_per {d:Nat} {P:List Nat} (hd:1≤d) (hp:d≤P.length) (k i:Nat) (h:i<d+k):(cp d k P).getD (P.length - d+i) 0=P.getD (P.length - d+i % d) 0:=by
 by_cases hi:i<d
 ·rw [cp_old d P k _ (by omega),Nat.mod_eq_of_lt hi]
 ·rw [show P.length - d+i=P.length+(i - d) by omega,cp_new hd hp k (i - d) (by omega),mod_less (by omega)]
theorem list_eq {A B:List Nat} (h:A.length=B.length) (h2:∀ i,i<A.length→A.getD i 0=B.getD i 0):A=B:=by
 apply List.ext_getElem h
 intro i h1 h3
 have:=h2 i h1
 simpa [h1,h3] using this
theorem slice_get (P:List Nat) (f n i:Nat) (h:i<n):((P.drop f).take n).getD i 0=P.getD (f+i) 0:=by
 simp only [List.getD_eq_getElem?_getD]
 rw [List.getElem?_take,if_pos h,List.getElem?_drop]
theorem cp_block {d k:Nat} {P B:List Nat} (hd:1≤d) (hp:d≤P.length) (hb:B.length=k) (h:∀ i,i<k→B.getD i 0=P.getD (P.length - d+i % d) 0):cp d k P=P++B:=by
 refine list_eq (by rw [cp_length,List.length_append,hb]) fun i hi=>?_
 rw [cp_length] at hi
 by_cases hl:i<P.length
 ·rw [cp_old d P k i hl,getD_app_left _ _ _ hl]
 ·rw [show i=P.length+(i - P.length) by omega,cp_new hd hp k _ (by omega),getD_app_right,h _ (by omega)]
theorem cp_long {d j k:Nat} {P:List Nat} (hd:1≤d) (hp:d≤P.length) (hj:j % d=0) (hk:k≤d+j):cp d (j+k) P=cp d j P++((cp d j P).drop (P.length - d)).take k:=by
 rw [cp_add]
 have hl:=cp_length d P j
 refine cp_block hd (by omega) (by simp;omega) fun i hi=>?_
 have hm:i % d<d:=Nat.mod_lt _ hd
 rw [slice_get _ _ _ _ hi,cp_per hd hp j i (by omega),hl,show P.length+j - d+i % d=P.length - d+(j+i % d) by omega,cp_per hd hp j (j+i % d) (by omega),Nat.add_mod,hj,Nat.zero_add,Nat.mod_mod,Nat.mod_mod]
end Infl
namespace Infl
def down (f:Nat→Nat) (n:Nat):Nat→Nat
 | 0=>0
 | s+1=>if f (s+1)≤n then s+1 else down f n s
theorem down_le (f:Nat→Nat) (n:Nat):∀ s,down f n s≤s
 | 0=>Nat.le_refl _
 | s+1=>by
  unfold down
  split
  ·exact Nat.le_refl _
  ·have:=down_le f n s;omega
theorem down_is (f:Nat→Nat) (n:Nat) (a:Nat) (ha:f a≤n):∀ s,a≤s→a≤down f n s∧f (down f n s)≤n∧∀ t,down f n s<t→t≤s→n<f t
 | 0,h=>by
  obtain rfl:a=0:=by omega
  exact ⟨Nat.le_refl _,ha,fun t h1 h2=>by simp [down] at h1;omega⟩
 | s+1,h=>by
  unfold down
  by_cases hc:f (s+1)≤n
  ·rw [if_pos hc]
   exact ⟨h,hc,fun t h1 h2=>by omega⟩
  ·rw [if_neg hc]
   have has:a≤s:=by
    rcases Nat.lt_or_ge s a with h' | h'
    ·obtain rfl:a=s+1:=by omega
     exact absurd ha hc
    ·exact h'
   obtain ⟨i1,i2,i3⟩:=down_is f n a ha s has
   refine ⟨i1,i2,fun t h1 h2=>?_⟩
   by_cases e:t=s+1
   ·subst e;omega
   ·exact i3 t h1 (by omega)
def symL (n:Nat):Nat:=down (fun s=>(lenOf s).1) n 285
def symD (d:Nat):Nat:=down (fun s=>(distOf s).1) d 29
theorem len_next:∀ i,i<27→(lenOf (257+(i+1))).1=(lenOf (257+i)).1+2 ^ (lenOf (257+i)).2:=by decide
theorem dist_next:∀ s,s<29→(distOf (s+1)).1=(distOf s).1+2 ^ (distOf s).2:=by decide
theorem symL_is (n:Nat) (h1:3≤n) (h2:n≤258):257≤symL n∧symL n≤285∧(lenOf (symL n)).1≤n∧n - (lenOf (symL n)).1<2 ^ (lenOf (symL n)).2:=by
 obtain ⟨i1,i2,i3⟩:=down_is (fun s=>(lenOf s).1) n 257 (by show (lenOf 257).1≤n;have:(lenOf 257).1=3:=rfl;omega) 285 (by decide)
 have hle:=down_le (fun s=>(lenOf s).1) n 285
 refine ⟨i1,hle,i2,?_⟩
 show n - (lenOf (down _ n 285)).1<_
 unfold symL
 generalize hs:down (fun s=>(lenOf s).1) n 285=s at *
 by_cases e:s=285
 ·subst e
  have e1:(lenOf 285).1=258:=rfl
  have e2:(lenOf 285).2=0:=rfl
  rw [e1,e2];simp;omega
 ·have h3:=i3 (s+1) (by omega) (by omega)
  by_cases e4:s=284
  ·subst e4
   have e1:(lenOf 284).1=227:=rfl
   have e2:(lenOf 284).2=5:=rfl
   have e3:(lenOf 285).1=258:=rfl
   have h3':n<(lenOf 285).1:=h3
   rw [e3] at h3'
   rw [e1,e2];omega
  ·have hn:=len_next (s - 257) (by omega)
   rw [show 257+(s - 257+1)=s+1 from by omega,show 257+(s - 257)=s from by omega] at hn
   have h3':n<(lenOf (s+1)).1:=h3
   have i2':(lenOf s).1≤n:=i2
   omega
theorem symD_is (d:Nat) (h1:1≤d) (h2:d≤32768):symD d≤29∧(distOf (symD d)).1≤d∧d - (distOf (symD d)).1<2 ^ (distOf (symD d)).2:=by
 obtain ⟨i1,i2,i3⟩:=down_is (fun s=>(distOf s).1) d 0 (by show (distOf 0).1≤d;have:(distOf 0).1=1:=rfl;omega) 29 (by decide)
 have hle:=down_le (fun s=>(distOf s).1) d 29
 refine ⟨hle,i2,?_⟩
 unfold symD
 generalize hs:down (fun s=>(distOf s).1) d 29=s at *
 by_cases e:s=29
 ·subst e
  have e1:(distOf 29).1=24577:=rfl
  have e2:(distOf 29).2=13:=rfl
  rw [e1,e2];omega
 ·have h3:=i3 (s+1) (by omega) (by omega)
  have hn:=dist_next s (by omega)
  have h3':d<(distOf (s+1)).1:=h3
  have i2':(distOf s).1≤d:=i2
  omega
end Infl
namespace Infl
def nb (v n:Nat):List Bool:=(List.range n).map fun i=>v.testBit i
def wb (ls:List Nat) (s:Nat):List Bool:=(List.range (Canon.ln ls s)).map fun j=>(Canon.wd ls s).testBit (Canon.ln ls s - 1 - j)
theorem nb_length (v n:Nat):(nb v n).length=n:=by simp [nb]
theorem wb_length (ls:List Nat) (s:Nat):(wb ls s).length=Canon.ln ls s:=by simp [wb]
def Lies (I:In) (p:Nat) (L:List Bool):Prop:=p+L.length≤I.m∧∀ i,i<L.length→I.f (p+i)=L.getD i false
theorem Lies.left {I:In} {p:Nat} {A B:List Bool} (h:Lies I p (A++B)):Lies I p A:=by
 obtain ⟨h1,h2⟩:=h
 rw [List.length_append] at h1 h2
 refine ⟨by omega,fun i hi=>?_⟩
 rw [h2 i (by omega),List.getD_eq_getElem?_getD,List.getD_eq_getElem?_getD,List.getElem?_append_left hi]
theorem Lies.right {I:In} {p:Nat} {A B:List Bool} (h:Lies I p (A++B)):Lies I (p+A.length) B:=by
 obtain ⟨h1,h2⟩:=h
 rw [List.length_append] at h1 h2
 refine ⟨by omega,fun i hi=>?_⟩
 rw [Nat.add_assoc,h2 (A.length+i) (by omega),List.getD_eq_getElem?_getD,List.getD_eq_getElem?_getD,List.getElem?_append_right (by omega),Nat.add_sub_cancel_left]
theorem get_nb {I:In} {p v n:Nat} (h:Lies I p (nb v n)) (hv:v<2 ^ n):get n I p=.ok v (p+n):=by
 obtain ⟨h1,h2⟩:=h
 rw [nb_length] at h1 h2
 unfold get
 rw [if_pos h1,num_test I.f p v n (fun i hi=>?_),Nat.mod_eq_of_lt hv]
 rw [h2 i hi]
 simp [nb,hi]
theorem word_wb {ls:List Nat} (hg:Good ls) {I:In} {p s:Nat} (hs:s<ls.length) (h0:0<Canon.ln ls s) (h:Lies I p (wb ls s)):word gg ls I p=.ok s (p+Canon.ln ls s):=by
 obtain ⟨h1,h2⟩:=h
 rw [wb_length] at h1 h2
 refine word_is hg hs rfl h0 h1 (fun j hj=>?_)
 rw [h2 j hj]
 simp [wb,hj]
structure T where
 n:Nat
 d:Nat
 b:Nat
def T.ext (out:List Nat) (t:T):List Nat:=if t.n=0 then out++[t.b] else cp t.d t.n out
def T.ok (out:List Nat) (t:T):Prop:=(t.n=0∧t.b<256)∨(3≤t.n∧t.n≤258∧1≤t.d∧t.d≤32768∧t.d≤out.length)
theorem T.ext_le (out:List Nat) (t:T):out.length≤(t.ext out).length:=by
 unfold T.ext
 split
 ·simp
 ·rw [cp_length];omega
def T.bits (l1 l2:List Nat) (t:T):List Bool :=
 if t.n=0 then wb l1 t.b else wb l1 (symL t.n)++(nb (t.n - (lenOf (symL t.n)).1) (lenOf (symL t.n)).2++(wb l2 (symD t.d)++nb (t.d - (distOf (symD t.d)).1) (distOf (symD t.d)).2))
def T.has (l1 l2:List Nat) (t:T):Prop :=
 if t.n=0 then t.b<l1.length∧0<Canon.ln l1 t.b else (symL t.n<l1.length∧0<Canon.ln l1 (symL t.n))∧(symD t.d<l2.length∧0<Canon.ln l2 (symD t.d))
theorem tok_bits {l1 l2:List Nat} (g1:Good l1) (g2:Good l2) {I:In} {p most:Nat} {out:List Nat} {t:T} (hok:t.ok out) (hhas:t.has l1 l2) (hroom:(t.ext out).length≤most) (h:Lies I p (t.bits l1 l2)) :
  tok gg l1 l2 most out I p=.ok (some (t.ext out)) (p+(t.bits l1 l2).length):=by
 by_cases h0:t.n=0
 ·unfold T.bits at h ⊢
  unfold T.ext at hroom ⊢
  unfold T.has at hhas
  simp only [if_pos h0] at h hroom hhas ⊢
  have hb:t.b<256:=by
   rcases hok with ⟨_,hb⟩ | ⟨h3,_⟩
   ·exact hb
   ·omega
  rw [List.length_append,List.length_singleton] at hroom
  unfold tok
  rw [bind_of (word_wb g1 hhas.1 hhas.2 h),if_neg (by omega),if_pos hb,if_neg (by omega),wb_length]
  rfl
 ·obtain ⟨a1,a2,a3,a4,a5⟩:3≤t.n∧t.n≤258∧1≤t.d∧t.d≤32768∧t.d≤out.length:=by
   rcases hok with ⟨h',_⟩ | h'
   ·exact absurd h' h0
   ·exact h'
  obtain ⟨s1,s2,s3,s4⟩:=symL_is t.n a1 a2
  obtain ⟨e1,e2,e3⟩:=symD_is t.d a3 a4
  unfold T.bits at h ⊢
  unfold T.ext at hroom ⊢
  unfold T.has at hhas
  simp only [if_neg h0] at h hroom hhas ⊢
  rw [cp_length] at hroom
  have w1:=word_wb g1 hhas.1.1 hhas.1.2 h.left
  have r1:=h.right
  rw [wb_length] at r1
  have w2:=get_nb r1.left s4
  have r2:=r1.right
  rw [nb_length] at r2
  have w3:=word_wb g2 hhas.2.1 hhas.2.2 r2.left
  have r3:=r2.right
  rw [wb_length] at r3
  have w4:=get_nb r3 e3
  unfold tok
  rw [bind_of w1,if_neg (by omega),if_neg (by omega),if_neg (by omega),bind_of w2,bind_of w3,if_neg (by omega),bind_of w4]
  rw [show (distOf (symD t.d)).1+(t.d - (distOf (symD t.d)).1)=t.d from by omega,show (lenOf (symL t.n)).1+(t.n - (lenOf (symL t.n)).1)=t.n from by omega]
  rw [if_neg (by omega),if_neg (by omega),List.length_append,List.length_append,List.length_append,wb_length,wb_length,nb_length,nb_length,← Nat.add_assoc,← Nat.add_assoc,← Nat.add_assoc]
  rfl
def exts:List Nat→List T→List Nat
 | out,[]=>out
 | out,t :: ts=>exts (t.ext out) ts
theorem exts_le:∀ (out:List Nat) (ts:List T),out.length≤(exts out ts).length
 | out,[]=>Nat.le_refl _
 | out,t :: ts=>Nat.le_trans (T.ext_le out t) (exts_le (t.ext out) ts)
def Toks (l1 l2:List Nat):List Nat→List T→Prop
 | _,[]=>True
 | out,t :: ts=>t.ok out∧t.has l1 l2∧Toks l1 l2 (t.ext out) ts
def tbits (l1 l2:List Nat) (ts:List T):List Bool:=(ts.map (T.bits l1 l2)).flatten
theorem toks_bits {l1 l2:List Nat} (g1:Good l1) (g2:Good l2) {I:In} {most:Nat} (h256:256<l1.length∧0<Canon.ln l1 256):∀ (ts:List T) (out:List Nat) (p F:Nat),ts.length<F→Toks l1 l2 out ts→(exts out ts).length≤most→Lies I p (tbits l1 l2 ts++wb l1 256) →
  toks gg l1 l2 most F out I p=.ok (exts out ts) (p+(tbits l1 l2 ts++wb l1 256).length)
 | [],out,p,0,hF,_,_,_=>by omega
 | [],out,p,F+1,hF,hok,hroom,h=>by
  have w:=word_wb g1 h256.1 h256.2 (show Lies I p (wb l1 256) from h)
  rw [toks,bind_of (x:=none) (o:=p+Canon.ln l1 256)]
  ·show Res.ok out _=Res.ok out _
   congr 1
   show p+_=p+(([]:List Bool)++wb l1 256).length
   rw [List.nil_append,wb_length]
  ·unfold tok
   rw [bind_of w,if_pos rfl]
   rfl
 | t :: ts,out,p,0,hF,_,_,_=>by omega
 | t :: ts,out,p,F+1,hF,hok,hroom,h=>by
  have e:tbits l1 l2 (t :: ts)++wb l1 256=t.bits l1 l2++(tbits l1 l2 ts++wb l1 256):=by
   unfold tbits;rw [List.map_cons,List.flatten_cons,List.append_assoc]
  rw [e] at h ⊢
  have ht:=tok_bits g1 g2 (most:=most) hok.1 hok.2.1 (Nat.le_trans (exts_le (t.ext out) ts) hroom) h.left
  rw [toks,bind_of ht]
  show toks gg l1 l2 most F (t.ext out) I _=_
  rw [toks_bits g1 g2 h256 ts (t.ext out) _ F (by simp at hF;omega) hok.2.2 hroom h.right]
  have e2:(t.bits l1 l2++(tbits l1 l2 ts++wb l1 256)).length=(t.bits l1 l2).length+(tbits l1 l2 ts++wb l1 256).length:=List.length_append
  rw [e2,Nat.add_assoc]
  rfl
end Infl
end Go.Proofs.YtabeanealkopbaaGreat
