/- DeflateTells, upto: any text has the document's packed bytes, of blocks of any size and of any kind, or is refused as the document says; two answers share no memory, and what was handed in is not changed. Its condition: the arguments hold together at most 1048576 values. -/
import Derived.Test.YtabeanealkopbaaGreatDtqJ
import Derived.Lib.SliceRun
import Derived.SizedLaws
import Derived.JoinedCond

set_option linter.unusedVariables false
set_option maxRecDepth 100000
set_option maxHeartbeats 24000000
namespace Go.Proofs.YtabeanealkopbaaGreat
namespace W4
open Go.RowKit Mth Infl Defl
theorem y1t (ts:List T) (l:Nat):3≤(z1g ts l).length:=by unfold z1g;rw [List.length_append];simp [head,z0g]
theorem y1d (ts:List T) (l:Nat):3≤(z3a (plOf ts) ts l).length:=by unfold z3a;rw [List.length_append];simp [head,z0g]
section
variable {x0:World} {pp pb gw c1 c2 lo hi:Nat} {v0:Value} {m f:Nat} {L:List Bool} {ts:List T} {last:Bool} {pv:Value} {xb:Nat} {ta:Option Addr} {tc:Nat} {y:World}
theorem w0j (hE:PutEnv x0 2 pp pb gw c1 c2 lo hi v0 m f L) (h:ZB x0 ts last pv c1 c2 xb ta tc (.pointer none) y) (hto:TokBy z1b z1c ts) :
  Calls Tryz.prog 30 #[.pointer (some ⟨pp,0,none⟩),.pointer (some ⟨xb,0,none⟩)] y fun e y'=>e=.returned (.agg #[.int .i64 0,.int .i64 ((z1g ts last.toNat).length:Int)])∧ZB x0 ts last pv c1 c2 xb ta tc (.pointer none) y':=by
 have hpk:=hE.pack_on h.bel
 have key:∀z,Below y.heap.size y z→z.heap[pp]?=y.heap[pp]?∧z.heap[gw]?=y.heap[gw]?:=fun z hz=>⟨hz.block _ (z0b hpk.1),hz.block _ (z0b hpk.2)⟩
 refine (z7f 1 (fun _=>22) (fun _=>23) (fun _=>((z1g ts last.toNat).length:Int)) (fun _=>0) (fun i=>if i=0 then 0 else ((z1g ts last.toNat).length:Int)) (fun z=>Below y.heap.size y z) (fun _ _ z=>Below y.heap.size y z) pp pb gw 2 2 xb (L.length:Int) y (by omega) (by omega) ⟨rfl,rfl⟩ ?_ ?_ (fun _=>Tryz.call22) ?_ ?_ ?_ ?_ (fun z hz=>hz.size) (fun z o hz=>hz.alloc hz.size _) (fun z k o v hz hk=>hz.setCell hk _) (fun z q hz=>below_drewN hz q) (fun _ _ z o hz=>hz.alloc hz.size _) (fun _ _ z k o v hz hk _=>hz.setCell hk _) (fun _ _ z q hz=>below_drewN hz q) ?_ ?_ ?_ (z0b h.blk) (Below.refl _ _)).mono ?_
 ·intro i hi;obtain rfl:i=0:=by omega
  simp
 ·intro i h1 h2
  rw [if_neg (by omega),beq_eq_false_iff_ne]
  have:=y1t ts last.toNat
  omega
 ·intro z hz;simp only [World.cell?,(key z hz).1,hpk.1];rfl
 ·intro i z hi hz;obtain rfl:i=0:=by omega
  constructor<;>(simp only [World.cell?,(key z hz).2,hpk.2];rfl)
 ·intro z hz;simp only [World.cell?,(key z hz).1,hpk.1];rfl
 ·intro _ _ z hz;simp only [World.cell?,(key z hz).1,hpk.1];rfl
 ·intro z hz
  exact y3r pb m f false v0 L z (hE.wok.below (h.bel.trans (hz.mono h.bel.size))) (by have:=hE.len;omega) hE.f7
 ·intro i z hi hz;omega
 ·intro i z hi hz
  refine (y8p hE (h.on hz) hto _ last.toNat).mono ?_
  rintro e z' ⟨rfl,k⟩
  exact ⟨rfl,hz.trans (k.mono hz.size),k.size,fun j hj _=>k.block j hj⟩
 ·rintro e y' ⟨rfl,_,_,k⟩
  exact ⟨rfl,h.on k⟩
theorem w3v (hE:PutEnv x0 3 pp pb gw c1 c2 lo hi v0 m f L) (h:ZB x0 ts last pv c1 c2 xb ta tc (.pointer none) y) {out:List Nat} (hok:Oks out ts) (hlen:ts.length≤1000000000) :
  Calls Tryz.prog 30 #[.pointer (some ⟨pp,0,none⟩),.pointer (some ⟨xb,0,none⟩)] y fun e y'=>e=.returned (.agg #[.int .i64 0,.int .i64 ((z3a (plOf ts) ts last.toNat).length:Int)])∧QB x0 ts last pv c1 c2 xb y':=by
 have hpk:=hE.pack_on h.bel
 have hxb:=z0b h.blk
 have hpx:pp≠xb:=by have:=h.ge;have:=hE.spp.1;omega
 have key:∀z,Below y.heap.size y z→z.heap[pp]?=y.heap[pp]?∧z.heap[gw]?=y.heap[gw]?:=fun z hz=>⟨hz.block _ (z0b hpk.1),hz.block _ (z0b hpk.2)⟩
 refine (z7f 1 (fun _=>24) (fun _=>25) (fun _=>((z3a (plOf ts) ts last.toNat).length:Int)) (fun _=>0) (fun i=>if i=0 then 0 else ((z3a (plOf ts) ts last.toNat).length:Int)) (fun z=>Below y.heap.size y z) (S1B y ts last pv c1 c2 xb ta tc) pp pb gw 4 1 xb (L.length:Int) y (by omega) (by omega) ⟨rfl,rfl⟩ ?_ ?_ (fun _=>Tryz.call24) ?_ ?_ ?_ ?_ (fun z hz=>hz.size) (fun z o hz=>hz.alloc hz.size _) (fun z k o v hz hk=>hz.setCell hk _) (fun z q hz=>below_drewN hz q) (fun p q z o hz=>hz.alloc o) (fun p q z k o v hz hk hpq=>hz.set hxb k o v hk hpq) (fun p q z m hz=>hz.drewN m) ?_ ?_ ?_ hxb (Below.refl _ _)).mono ?_
 ·intro i hi;obtain rfl:i=0:=by omega
  simp
 ·intro i h1 h2
  rw [if_neg (by omega),beq_eq_false_iff_ne]
  have:=y1d ts last.toNat
  omega
 ·intro z hz;simp only [World.cell?,(key z hz).1,hpk.1];rfl
 ·intro i z hi hz;obtain rfl:i=0:=by omega
  constructor<;>(simp only [World.cell?,(key z hz).2,hpk.2];rfl)
 ·intro z hz;simp only [World.cell?,(key z hz).1,hpk.1];rfl
 ·intro p q z hz;simp only [World.cell?,hz.chb.keep pp (z0b hpk.1) hpx,hpk.1];rfl
 ·intro z hz
  exact y3r pb m f false v0 L z (hE.wok.below (h.bel.trans (hz.mono h.bel.size))) (by have:=hE.len;omega) hE.f7
 ·intro i z hi hz;omega
 ·intro i z hi hz
  exact x2g h hz hok hlen _ _
 ·rintro e y' ⟨rfl,p,q,k⟩
  exact ⟨rfl,k.qb h⟩
theorem y4u (hE:PutEnv x0 0 pp pb gw c1 c2 lo hi v0 m f L) {n pc:Nat} {pa:Option Addr} (h:ZB x0 ts last (.slice pa n pc) c1 c2 xb ta tc (.pointer none) y) (hn:n≤65535) {out:List Nat} (hok:Oks out ts) (hlen:ts.length≤1000000000) (i2 m2 i3 m3:Int)
  (ht2:m2≠0) (ht3:m3≠0)
  (h2:(if ((z1g ts last.toNat).length:Int)<(z0o n L.length:Int) then ((1:Int),((z1g ts last.toNat).length:Int)) else ((0:Int),(z0o n L.length:Int)))=(i2,m2)) (h3:(if ((z3a (plOf ts) ts last.toNat).length:Int)<m2 then ((2:Int),((z3a (plOf ts) ts last.toNat).length:Int)) else (i2,m2))=(i3,m3)) :
  Calls Tryz.prog 30 #[.pointer (some ⟨pp,0,none⟩),.pointer (some ⟨xb,0,none⟩)] y fun e y'=>e=.returned (.agg #[.int .i64 i3,.int .i64 m3])∧QB x0 ts last (.slice pa n pc) c1 c2 xb y':=by
 have hpk:=hE.pack_on h.bel
 have hxb:=z0b h.blk
 have hpx:pp≠xb:=by have:=h.ge;have:=hE.spp.1;omega
 have key:∀z,Below y.heap.size y z→z.heap[pp]?=y.heap[pp]?∧z.heap[gw]?=y.heap[gw]?:=fun z hz=>⟨hz.block _ (z0b hpk.1),hz.block _ (z0b hpk.2)⟩
 have hs1:1≤z0o n L.length:=by unfold z0o;omega
 refine (z7f 3 (fun i=>if i=0 then 20 else if i=1 then 22 else 24) (fun i=>if i=0 then 21 else if i=1 then 23 else 25) (fun i=>if i=0 then (z0o n L.length:Int) else if i=1 then ((z1g ts last.toNat).length:Int) else ((z3a (plOf ts) ts last.toNat).length:Int)) (fun i=>if i=0 then 0 else if i=1 then 0 else if i=2 then i2 else i3) (fun i=>if i=0 then 0 else if i=1 then (z0o n L.length:Int) else if i=2 then m2 else m3) (fun z=>Below y.heap.size y z) (S1B y ts last (.slice pa n pc) c1 c2 xb ta tc) pp pb gw 0 3 xb (L.length:Int) y (by omega) (by omega) ⟨rfl,rfl⟩ ?_ ?_ ?_ ?_ ?_ ?_ ?_ (fun z hz=>hz.size) (fun z o hz=>hz.alloc hz.size _) (fun z k o v hz hk=>hz.setCell hk _) (fun z q hz=>below_drewN hz q) (fun p q z o hz=>hz.alloc o) (fun p q z k o v hz hk hpq=>hz.set hxb k o v hk hpq) (fun p q z m hz=>hz.drewN m) ?_ ?_ ?_ hxb (Below.refl _ _)).mono ?_
 ·intro i hi
  have:i=0∨i=1∨i=2:=by omega
  rcases this with rfl|rfl|rfl
  ·rfl
  ·simpa using h2.symm
  ·simpa using h3.symm
 ·intro i h1' h2'
  rw [beq_eq_false_iff_ne]
  have:i=1∨i=2∨i=3:=by omega
  rcases this with rfl|rfl|rfl
  ·show (z0o n L.length:Int)≠0
   omega
  ·exact ht2
  ·exact ht3
 ·intro i args x
  by_cases e0:i=0
  ·subst e0;exact Tryz.call20 args x
  ·by_cases e1:i=1
   ·subst e1;exact Tryz.call22 args x
   ·simp only [if_neg e0,if_neg e1]
    exact Tryz.call24 args x
 ·intro z hz;simp only [World.cell?,(key z hz).1,hpk.1];rfl
 ·intro i z hi hz
  have:i=0∨i=1∨i=2:=by omega
  rcases this with rfl|rfl|rfl<;>constructor<;>(simp only [World.cell?,(key z hz).2,hpk.2];rfl)
 ·intro z hz;simp only [World.cell?,(key z hz).1,hpk.1];rfl
 ·intro p q z hz;simp only [World.cell?,hz.chb.keep pp (z0b hpk.1) hpx,hpk.1];rfl
 ·intro z hz
  exact y3r pb m f false v0 L z (hE.wok.below (h.bel.trans (hz.mono h.bel.size))) (by have:=hE.len;omega) hE.f7
 ·intro i z hi hz
  have:i=0∨i=1:=by omega
  rcases this with rfl|rfl
  ·refine (x4l (h.on hz) hn L.length (by have:=hE.len;omega)).mono ?_
   rintro e z' ⟨rfl,rfl⟩
   exact ⟨rfl,hz,Nat.le_refl _,fun _ _ _=>rfl⟩
  ·refine (y8p hE (h.on hz) (z8s hok hlen) _ last.toNat).mono ?_
   rintro e z' ⟨rfl,k⟩
   exact ⟨rfl,hz.trans (k.mono hz.size),k.size,fun j hj _=>k.block j hj⟩
 ·intro i z hi hz
  obtain rfl:i=2:=by omega
  exact x2g h hz hok hlen _ _
 ·rintro e y' ⟨rfl,p,q,k⟩
  exact ⟨rfl,k.qb h⟩
end
theorem y1w (zs:List Nat) (k fr:Nat):lastOf zs k fr=(decide (zs.length≤fr+k)).toNat:=by unfold lastOf;by_cases h:zs.length≤fr+k<;>simp [h]
theorem y1m (zs:List Nat) (k fr:Nat) (h:fr<zs.length∨fr=0):fr≤ende zs k fr∧ende zs k fr≤zs.length∧ende zs k fr≤fr+k:=by unfold ende;omega
section
variable (zs:List Nat) (a:Option Addr) (c k:Nat) (w:World)
theorem x8g (ht:z2a w a c zs) (hz:∀z∈zs,z<256) (hc:zs.length≤c) (hcM:c≤9223372036854775807) (hk1:1≤k) (hk2:k≤65535) (hn:zs.length≤10000000) (hml:T6.ML w):x4q 2 zs k (tkOf zs) plOf a c w:=by
 intro x v0 m f L pp pb gw c1 c2 lo hi fr e last he hw hf hL hen hlast hfr
 have hE:PutEnv x 2 pp pb gw c1 c2 lo hi v0 m f L:=⟨he.pack,hw,hf,he.spp,he.sgw,he.codes,he.shi,hL⟩
 obtain ⟨pa,pc,h1,h2⟩:=z7q (k:=k) ht hc hcM hk1 he hfr
 obtain ⟨g1,g2,g3⟩:=y1m zs k fr hfr
 subst hen
 obtain ⟨hok,hex,hlen⟩:=y2s hz g1 g2
 have hl9:(tkOf zs fr (ende zs k fr)).length≤1000000000:=by omega
 have HPA:∀x1,Below x.heap.size x x1→_:=fun x1 hb=>y5t (x:=x1) ht hz hc hn hml (he.bel.trans (hb.mono he.bel.size)) g1 g2
 have hpl:(piece zs k fr).length≤65535:=by rw [z2r];omega
 have hpz:∀z∈piece zs k fr,z<256:=fun z hz'=>hz z (List.mem_of_mem_take (List.mem_of_mem_drop hz'))
 have e0:ownB zs k 2 (tkOf zs) plOf fr L.length=z1g (tkOf zs fr (ende zs k fr)) last.toNat:=by rw [hlast,←y1w];rfl
 rw [e0]
 refine y0b 2 2 1 2 0 23 (by decide) (fun g=>rfl) (by decide) Tryz.call23 rfl pp pb gw c1 c2 fr (ende zs k fr) a c pa (piece zs k fr).length pc last x (TTp (tkOf zs fr (ende zs k fr))) (fun xb y=>∃ta tc,ZB x (tkOf zs fr (ende zs k fr)) last (.slice pa (piece zs k fr).length pc) c1 c2 xb ta tc (.pointer none) y) (fun xb y=>∃ta tc,ZB x (tkOf zs fr (ende zs k fr)) last (.slice pa (piece zs k fr).length pc) c1 c2 xb ta tc (.pointer none) y) (fun w'=>WrAt x v0 pb (L++z1g (tkOf zs fr (ende zs k fr)) last.toNat) w') ((z1g (tkOf zs fr (ende zs k fr)) last.toNat).length:Int) he.pack h1 (qz HPA) (qz fun x1 x' xb ta tl tc q1 q2 q3 q4 q5=>⟨ta,tc,y0g q1 q2 q3 q4 q5⟩) (qz fun xb z ⟨ta,tc,h⟩=>hE.pack_on h.bel) (qz fun xb z ⟨ta,tc,h⟩=>⟨ta,tc,h.on (below_drewN (Below.refl _ _) 1)⟩) (qz ?_) (qz ?_) (qz ?_)
 ·rintro xb z ⟨ta,tc,h⟩
  refine (w0j hE h (z8s hok hl9)).mono ?_
  rintro e z' ⟨rfl,q⟩
  exact ⟨rfl,ta,tc,q⟩
 ·rintro xb z ⟨ta,tc,h⟩
  exact hE.pack_on h.bel
 ·rintro xb z ⟨ta,tc,h⟩
  exact x2f hE h (z8s hok hl9)
theorem y9q (ht:z2a w a c zs) (hz:∀z∈zs,z<256) (hc:zs.length≤c) (hcM:c≤9223372036854775807) (hk1:1≤k) (hk2:k≤65535) (hn:zs.length≤10000000) (hml:T6.ML w):x4q 3 zs k (tkOf zs) plOf a c w:=by
 intro x v0 m f L pp pb gw c1 c2 lo hi fr e last he hw hf hL hen hlast hfr
 have hE:PutEnv x 3 pp pb gw c1 c2 lo hi v0 m f L:=⟨he.pack,hw,hf,he.spp,he.sgw,he.codes,he.shi,hL⟩
 obtain ⟨pa,pc,h1,h2⟩:=z7q (k:=k) ht hc hcM hk1 he hfr
 obtain ⟨g1,g2,g3⟩:=y1m zs k fr hfr
 subst hen
 obtain ⟨hok,hex,hlen⟩:=y2s hz g1 g2
 have hl9:(tkOf zs fr (ende zs k fr)).length≤1000000000:=by omega
 have HPA:∀x1,Below x.heap.size x x1→_:=fun x1 hb=>y5t (x:=x1) ht hz hc hn hml (he.bel.trans (hb.mono he.bel.size)) g1 g2
 have hpl:(piece zs k fr).length≤65535:=by rw [z2r];omega
 have hpz:∀z∈piece zs k fr,z<256:=fun z hz'=>hz z (List.mem_of_mem_take (List.mem_of_mem_drop hz'))
 have e0:ownB zs k 3 (tkOf zs) plOf fr L.length=z3a (plOf (tkOf zs fr (ende zs k fr))) (tkOf zs fr (ende zs k fr)) last.toNat:=by rw [hlast,←y1w];rfl
 rw [e0]
 refine y0b 3 4 1 1 0 25 (by decide) (fun g=>rfl) (by decide) Tryz.call25 rfl pp pb gw c1 c2 fr (ende zs k fr) a c pa (piece zs k fr).length pc last x (TTp (tkOf zs fr (ende zs k fr))) (fun xb y=>∃ta tc,ZB x (tkOf zs fr (ende zs k fr)) last (.slice pa (piece zs k fr).length pc) c1 c2 xb ta tc (.pointer none) y) (fun xb y=>QB x (tkOf zs fr (ende zs k fr)) last (.slice pa (piece zs k fr).length pc) c1 c2 xb y) (fun w'=>WrAt x v0 pb (L++z3a (plOf (tkOf zs fr (ende zs k fr))) (tkOf zs fr (ende zs k fr)) last.toNat) w') ((z3a (plOf (tkOf zs fr (ende zs k fr))) (tkOf zs fr (ende zs k fr)) last.toNat).length:Int) he.pack h1 (qz HPA) (qz fun x1 x' xb ta tl tc q1 q2 q3 q4 q5=>⟨ta,tc,y0g q1 q2 q3 q4 q5⟩) (qz fun xb z ⟨ta,tc,h⟩=>hE.pack_on h.bel) (qz fun xb z ⟨ta,tc,h⟩=>⟨ta,tc,h.on (below_drewN (Below.refl _ _) 1)⟩) (qz ?_) (qz ?_) (qz ?_)
 ·rintro xb z ⟨ta,tc,h⟩
  exact w3v hE h hok hl9
 ·rintro xb z ⟨ta,tc,ob,o1,o2,wB,h,_⟩
  exact hE.pack_on h.bel
 ·rintro xb z h
  exact x0o hE h hok hl9
theorem x3n (ht:z2a w a c zs) (hz:∀z∈zs,z<256) (hc:zs.length≤c) (hcM:c≤9223372036854775807) (hk1:1≤k) (hk2:k≤65535) (hn:zs.length≤10000000) (hml:T6.ML w):x4q 0 zs k (tkOf zs) plOf a c w:=by
 intro x v0 m f L pp pb gw c1 c2 lo hi fr e last he hw hf hL hen hlast hfr
 have hE:PutEnv x 0 pp pb gw c1 c2 lo hi v0 m f L:=⟨he.pack,hw,hf,he.spp,he.sgw,he.codes,he.shi,hL⟩
 obtain ⟨pa,pc,h1,h2⟩:=z7q (k:=k) ht hc hcM hk1 he hfr
 obtain ⟨g1,g2,g3⟩:=y1m zs k fr hfr
 subst hen
 obtain ⟨hok,hex,hlen⟩:=y2s hz g1 g2
 have hl9:(tkOf zs fr (ende zs k fr)).length≤1000000000:=by omega
 have HPA:∀x1,Below x.heap.size x x1→_:=fun x1 hb=>y5t (x:=x1) ht hz hc hn hml (he.bel.trans (hb.mono he.bel.size)) g1 g2
 have hpl:(piece zs k fr).length≤65535:=by rw [z2r];omega
 have hpz:∀z∈piece zs k fr,z<256:=fun z hz'=>hz z (List.mem_of_mem_take (List.mem_of_mem_drop hz'))
 have e0:ownB zs k 0 (tkOf zs) plOf fr L.length=z0x (z0x (z1j (piece zs k fr) last.toNat L.length) (z1g (tkOf zs fr (ende zs k fr)) last.toNat)) (z3a (plOf (tkOf zs fr (ende zs k fr))) (tkOf zs fr (ende zs k fr)) last.toNat):=by rw [hlast,←y1w];rfl
 have hS:(z1j (piece zs k fr) last.toNat L.length).length=z0o (piece zs k fr).length L.length:=z6f _ _ _
 have hS1:1≤z0o (piece zs k fr).length L.length:=by unfold z0o;omega
 have hT1:=y1d (tkOf zs fr (ende zs k fr)) last.toNat
 have hF1:1≤(z1g (tkOf zs fr (ende zs k fr)) last.toNat).length:=by unfold z1g;rw [List.length_append];simp [head,z0g];omega
 rw [e0]
 by_cases hF:(z1g (tkOf zs fr (ende zs k fr)) last.toNat).length<z0o (piece zs k fr).length L.length
 ·have e1:z0x (z1j (piece zs k fr) last.toNat L.length) (z1g (tkOf zs fr (ende zs k fr)) last.toNat)=z1g (tkOf zs fr (ende zs k fr)) last.toNat:=by unfold z0x;rw [if_pos (by rw [hS];exact hF)]
  rw [e1]
  by_cases hD:(z3a (plOf (tkOf zs fr (ende zs k fr))) (tkOf zs fr (ende zs k fr)) last.toNat).length<(z1g (tkOf zs fr (ende zs k fr)) last.toNat).length
  ·have e2:z0x (z1g (tkOf zs fr (ende zs k fr)) last.toNat) (z3a (plOf (tkOf zs fr (ende zs k fr))) (tkOf zs fr (ende zs k fr)) last.toNat)=z3a (plOf (tkOf zs fr (ende zs k fr))) (tkOf zs fr (ende zs k fr)) last.toNat:=by unfold z0x;rw [if_pos hD]
   rw [e2]
   refine y0b 0 0 3 3 2 25 (by decide) (fun g=>rfl) (by decide) Tryz.call25 rfl pp pb gw c1 c2 fr (ende zs k fr) a c pa (piece zs k fr).length pc last x (TTp (tkOf zs fr (ende zs k fr))) (fun xb y=>∃ta tc,ZB x (tkOf zs fr (ende zs k fr)) last (.slice pa (piece zs k fr).length pc) c1 c2 xb ta tc (.pointer none) y) (fun xb y=>QB x (tkOf zs fr (ende zs k fr)) last (.slice pa (piece zs k fr).length pc) c1 c2 xb y) (fun w'=>WrAt x v0 pb (L++z3a (plOf (tkOf zs fr (ende zs k fr))) (tkOf zs fr (ende zs k fr)) last.toNat) w') ((z3a (plOf (tkOf zs fr (ende zs k fr))) (tkOf zs fr (ende zs k fr)) last.toNat).length:Int) he.pack h1 (qz HPA) (qz fun x1 x' xb ta tl tc q1 q2 q3 q4 q5=>⟨ta,tc,y0g q1 q2 q3 q4 q5⟩) (qz fun xb z ⟨ta,tc,h⟩=>hE.pack_on h.bel) (qz fun xb z ⟨ta,tc,h⟩=>⟨ta,tc,h.on (below_drewN (Below.refl _ _) 1)⟩) (qz ?_) (qz ?_) (qz ?_)
   ·rintro xb z ⟨ta,tc,h⟩
    exact y4u hE h hpl hok hl9 1 ((z1g (tkOf zs fr (ende zs k fr)) last.toNat).length:Int) 2 ((z3a (plOf (tkOf zs fr (ende zs k fr))) (tkOf zs fr (ende zs k fr)) last.toNat).length:Int) (by omega) (by omega) (by rw [if_pos (by omega)]) (by rw [if_pos (by omega)])
   ·rintro xb z ⟨ta,tc,ob,o1,o2,wB,h,_⟩
    exact hE.pack_on h.bel
   ·rintro xb z h
    exact x0o hE h hok hl9
  ·have e2:z0x (z1g (tkOf zs fr (ende zs k fr)) last.toNat) (z3a (plOf (tkOf zs fr (ende zs k fr))) (tkOf zs fr (ende zs k fr)) last.toNat)=z1g (tkOf zs fr (ende zs k fr)) last.toNat:=by unfold z0x;rw [if_neg hD]
   rw [e2]
   refine y0b 0 0 3 3 1 23 (by decide) (fun g=>rfl) (by decide) Tryz.call23 rfl pp pb gw c1 c2 fr (ende zs k fr) a c pa (piece zs k fr).length pc last x (TTp (tkOf zs fr (ende zs k fr))) (fun xb y=>∃ta tc,ZB x (tkOf zs fr (ende zs k fr)) last (.slice pa (piece zs k fr).length pc) c1 c2 xb ta tc (.pointer none) y) (fun xb y=>QB x (tkOf zs fr (ende zs k fr)) last (.slice pa (piece zs k fr).length pc) c1 c2 xb y) (fun w'=>WrAt x v0 pb (L++z1g (tkOf zs fr (ende zs k fr)) last.toNat) w') ((z1g (tkOf zs fr (ende zs k fr)) last.toNat).length:Int) he.pack h1 (qz HPA) (qz fun x1 x' xb ta tl tc q1 q2 q3 q4 q5=>⟨ta,tc,y0g q1 q2 q3 q4 q5⟩) (qz fun xb z ⟨ta,tc,h⟩=>hE.pack_on h.bel) (qz fun xb z ⟨ta,tc,h⟩=>⟨ta,tc,h.on (below_drewN (Below.refl _ _) 1)⟩) (qz ?_) (qz ?_) (qz ?_)
   ·rintro xb z ⟨ta,tc,h⟩
    exact y4u hE h hpl hok hl9 1 ((z1g (tkOf zs fr (ende zs k fr)) last.toNat).length:Int) 1 ((z1g (tkOf zs fr (ende zs k fr)) last.toNat).length:Int) (by omega) (by omega) (by rw [if_pos (by omega)]) (by rw [if_neg (by omega)])
   ·rintro xb z ⟨ta,tc,ob,o1,o2,wB,h,_⟩
    exact hE.pack_on h.bel
   ·rintro xb z ⟨ta,tc,ob,o1,o2,wB,h,_⟩
    exact x2f hE h (z8s hok hl9)
 ·have e1:z0x (z1j (piece zs k fr) last.toNat L.length) (z1g (tkOf zs fr (ende zs k fr)) last.toNat)=z1j (piece zs k fr) last.toNat L.length:=by unfold z0x;rw [if_neg (by rw [hS];exact hF)]
  rw [e1]
  by_cases hD:(z3a (plOf (tkOf zs fr (ende zs k fr))) (tkOf zs fr (ende zs k fr)) last.toNat).length<z0o (piece zs k fr).length L.length
  ·have e2:z0x (z1j (piece zs k fr) last.toNat L.length) (z3a (plOf (tkOf zs fr (ende zs k fr))) (tkOf zs fr (ende zs k fr)) last.toNat)=z3a (plOf (tkOf zs fr (ende zs k fr))) (tkOf zs fr (ende zs k fr)) last.toNat:=by unfold z0x;rw [if_pos (by rw [hS];exact hD)]
   rw [e2]
   refine y0b 0 0 3 3 2 25 (by decide) (fun g=>rfl) (by decide) Tryz.call25 rfl pp pb gw c1 c2 fr (ende zs k fr) a c pa (piece zs k fr).length pc last x (TTp (tkOf zs fr (ende zs k fr))) (fun xb y=>∃ta tc,ZB x (tkOf zs fr (ende zs k fr)) last (.slice pa (piece zs k fr).length pc) c1 c2 xb ta tc (.pointer none) y) (fun xb y=>QB x (tkOf zs fr (ende zs k fr)) last (.slice pa (piece zs k fr).length pc) c1 c2 xb y) (fun w'=>WrAt x v0 pb (L++z3a (plOf (tkOf zs fr (ende zs k fr))) (tkOf zs fr (ende zs k fr)) last.toNat) w') ((z3a (plOf (tkOf zs fr (ende zs k fr))) (tkOf zs fr (ende zs k fr)) last.toNat).length:Int) he.pack h1 (qz HPA) (qz fun x1 x' xb ta tl tc q1 q2 q3 q4 q5=>⟨ta,tc,y0g q1 q2 q3 q4 q5⟩) (qz fun xb z ⟨ta,tc,h⟩=>hE.pack_on h.bel) (qz fun xb z ⟨ta,tc,h⟩=>⟨ta,tc,h.on (below_drewN (Below.refl _ _) 1)⟩) (qz ?_) (qz ?_) (qz ?_)
   ·rintro xb z ⟨ta,tc,h⟩
    exact y4u hE h hpl hok hl9 0 (z0o (piece zs k fr).length L.length:Int) 2 ((z3a (plOf (tkOf zs fr (ende zs k fr))) (tkOf zs fr (ende zs k fr)) last.toNat).length:Int) (by omega) (by omega) (by rw [if_neg (by omega)]) (by rw [if_pos (by omega)])
   ·rintro xb z ⟨ta,tc,ob,o1,o2,wB,h,_⟩
    exact hE.pack_on h.bel
   ·rintro xb z h
    exact x0o hE h hok hl9
  ·have e2:z0x (z1j (piece zs k fr) last.toNat L.length) (z3a (plOf (tkOf zs fr (ende zs k fr))) (tkOf zs fr (ende zs k fr)) last.toNat)=z1j (piece zs k fr) last.toNat L.length:=by unfold z0x;rw [if_neg (by rw [hS];exact hD)]
   rw [e2]
   refine y0b 0 0 3 3 0 21 (by decide) (fun g=>rfl) (by decide) Tryz.call21 rfl pp pb gw c1 c2 fr (ende zs k fr) a c pa (piece zs k fr).length pc last x (TTp (tkOf zs fr (ende zs k fr))) (fun xb y=>∃ta tc,ZB x (tkOf zs fr (ende zs k fr)) last (.slice pa (piece zs k fr).length pc) c1 c2 xb ta tc (.pointer none) y) (fun xb y=>QB x (tkOf zs fr (ende zs k fr)) last (.slice pa (piece zs k fr).length pc) c1 c2 xb y) (fun w'=>WrAt x v0 pb (L++z1j (piece zs k fr) last.toNat L.length) w') (z0o (piece zs k fr).length L.length:Int) he.pack h1 (qz HPA) (qz fun x1 x' xb ta tl tc q1 q2 q3 q4 q5=>⟨ta,tc,y0g q1 q2 q3 q4 q5⟩) (qz fun xb z ⟨ta,tc,h⟩=>hE.pack_on h.bel) (qz fun xb z ⟨ta,tc,h⟩=>⟨ta,tc,h.on (below_drewN (Below.refl _ _) 1)⟩) (qz ?_) (qz ?_) (qz ?_)
   ·rintro xb z ⟨ta,tc,h⟩
    exact y4u hE h hpl hok hl9 0 (z0o (piece zs k fr).length L.length:Int) 0 (z0o (piece zs k fr).length L.length:Int) (by omega) (by omega) (by rw [if_neg (by omega)]) (by rw [if_neg (by omega)])
   ·rintro xb z ⟨ta,tc,ob,o1,o2,wB,h,_⟩
    exact hE.pack_on h.bel
   ·rintro xb z ⟨ta,tc,ob,o1,o2,wB,h,_⟩
    exact x9w hE h h2 hpz hpl
theorem x2a {l1 l2:List Nat} {ts:List T} (h:TokBy l1 l2 ts):(z2h l1 l2 ts++wb l1 256).length≤56*ts.length+28:=by
 rw [←y0z]
 have h1:=y4y (y4k h.ok h.has h.fin h.m1 h.m2)
 have h2:=z6l ts
 omega
theorem x7u (hz:∀z∈zs,z<256) (hk1:1≤k) (hk2:k≤65535) (hn:zs.length≤10000000) (kind fr p:Nat) (hfr:fr<zs.length∨fr=0):(ownB zs k kind (tkOf zs) plOf fr p).length≤40000*k:=by
 obtain ⟨g1,g2,g3⟩:=y1m zs k fr hfr
 obtain ⟨hok,_,hlen⟩:=y2s hz g1 g2
 have hl9:(tkOf zs fr (ende zs k fr)).length≤1000000000:=by omega
 have f1:=x2a (z8s hok hl9)
 have f2:=x2a (z5j hok hl9).by_
 have f3:=x6k (z5j hok hl9).head
 unfold ownB
 rcases y5u kind (z1j (piece zs k fr) (lastOf zs k fr) p) (z1g (tkOf zs fr (ende zs k fr)) (lastOf zs k fr)) (z3a (plOf (tkOf zs fr (ende zs k fr))) (tkOf zs fr (ende zs k fr)) (lastOf zs k fr)) with h|h|h
 ·rw [h,z6f,z2r]
  unfold z0o
  omega
 ·rw [h]
  unfold z1g
  rw [List.length_append]
  simp only [head,List.length_append,z0g] at f1 ⊢
  omega
 ·rw [h,←z9g hok hl9,List.length_append,List.length_append]
  simp only [head,List.length_append,z0g] at f2 f3 ⊢
  omega
theorem x2t (kind:Nat) (hkind:kind≤3) (ht:z2a w a c zs) (hz:∀z∈zs,z<256) (hc:zs.length≤c) (hcM:c≤9223372036854775807) (hk1:1≤k) (hk2:k≤65535) (hn:zs.length≤10000000) (hml:T6.ML w) :
  Calls Tryz.prog 6 #[.slice a zs.length c,.int .i64 (k:Int),.int .i64 (kind:Int)] w fun e w'=>∃g L,L=z6i zs k kind (tkOf zs) plOf (zs.length+1) 0 []∧e=.returned (.tuple #[.slice (some ⟨g,0,none⟩) ((L.length+7)/8) ((L.length+7)/8),.int .i64 0])∧w'.heap[g]?=some (.cells ((pk false ((L.length+7)/8) L).map bv).toArray 5 (0,0))∧w.heap.size≤g∧Below w.heap.size w w':=by
 refine y9b kind zs a c k (tkOf zs) plOf w hk1 hk2 hkind hn hc (fun h0=>by obtain ⟨b,off,e,_⟩:=ht.spot h0;exact ⟨b,off,e⟩) ?_ (x7u zs k hz hk1 hk2 hn kind)
 have hc4:kind=0∨kind=1∨kind=2∨kind=3:=by omega
 rcases hc4 with rfl|rfl|rfl|rfl
 ·exact x3n zs a c k w ht hz hc hcM hk1 hk2 hn hml
 ·exact x8f zs a c k _ _ w ht hz hc hcM hk1 hk2
 ·exact x8g zs a c k w ht hz hc hcM hk1 hk2 hn hml
 ·exact y9q zs a c k w ht hz hc hcM hk1 hk2 hn hml
end
end W4
namespace W4
open Go.RowKit Mth Infl Defl
attribute [local go_sem ↓] wp_at_zero wp_at_succ
theorem x8z (b off e c lo d:Nat) (h:lo<c) (h1:lo+d≤c) (h3:c≤9223372036854775807) (x:World):(Instr.slice 22 (.slice (some ⟨b,off,none⟩) e c) (some (.int .i64 (lo:Int))) (some (.int .i64 ((lo:Int)+(d:Int)))) none).run Tryz.prog x=.ok (.slice (some ⟨b,off+lo,none⟩) d (c-lo)) x:=by
 obtain ⟨hi,hhi⟩:∃hi,hi=lo+d:=⟨_,rfl⟩
 have e0:(lo:Int)+(d:Int)=(hi:Int):=by omega
 have e1:(lo:Int)≤(hi:Int):=by omega
 have e2:(hi:Int)≤(c:Int):=by omega
 have e4:¬c=lo:=by omega
 have e5:hi-lo=d:=by omega
 clear hhi
 rw [e0]
 go_simp
 try rw [e5]
theorem x8x (a:Option Addr) (e c:Nat) (h3:c≤9223372036854775807) (x:World):(Instr.slice 22 (.slice a e c) (some (.int .i64 (c:Int))) (some (.int .i64 ((c:Int)+0))) none).run Tryz.prog x=.ok (.slice a 0 0) x:=by
 rw [Int.add_zero]
 go_simp
theorem x8y (a:Option Addr) (c:Nat) (x:World):(Instr.slice 22 (.slice a 0 c) (some (.int .i64 ((0:Nat):Int))) (some (.int .i64 (((0:Nat):Int)+((0:Nat):Int)))) none).run Tryz.prog x=.ok (.slice a 0 c) x:=by
 go_simp
theorem x9g {w:World} {a:Option Addr} {c:Nat} {zs:List Nat} (h:z2a w a c zs) (hc:zs.length≤c) (hcM:c≤9223372036854775807) (lo d:Nat) (hl:lo+d≤zs.length) :
  ∃xa xc,(∀y,(Instr.slice 22 (.slice a zs.length c) (some (.int .i64 (lo:Int))) (some (.int .i64 ((lo:Int)+(d:Int)))) none).run Tryz.prog y=.ok (.slice xa d xc) y)∧YtabeanealkopbaaGreat.Reads w (.slice xa d xc) ((zs.drop lo).take d):=by
 have hlen:((zs.drop lo).take d).length=d:=by rw [List.length_take,List.length_drop];omega
 rcases Nat.lt_or_ge lo c with hlt|hge
 ·rcases Nat.eq_zero_or_pos zs.length with h0|h0
  ·have hz:zs=[]:=List.length_eq_zero_iff.1 h0
   subst hz
   obtain rfl:lo=0:=by simp at hl;omega
   obtain rfl:d=0:=by simp at hl;omega
   exact ⟨a,c,fun y=>x8y a c y,a,c,rfl,fun hp=>by simp at hp⟩
  ·obtain ⟨b,off,rfl,hb,hcell⟩:=h.spot h0
   refine ⟨_,_,fun y=>x8z b off _ c lo d hlt (by omega) hcM y,_,_,by rw [hlen],fun hp=>⟨_,rfl,fun j u hj=>?_⟩⟩
   have hjd:j<d:=by
    rcases Nat.lt_or_ge j d with h|h
    ·exact h
    ·rw [List.getElem?_eq_none (by rw [List.length_map,hlen];exact h)] at hj;cases hj
   rw [List.getElem?_map,List.getElem?_take,if_pos hjd,List.getElem?_drop,List.getElem?_eq_getElem (by omega)] at hj
   simp only [Option.map_some,Option.some.injEq] at hj
   have ea:(⟨b,off+lo,none⟩:Addr).add j=⟨b,off+(lo+j),none⟩:=by by_cases hq:j=0<;>simp [Addr.add,hq,Nat.add_assoc]
   rw [ea,hcell (lo+j) (by omega),←hj]
   simp [List.getD_eq_getElem?_getD,show lo+j<zs.length by omega]
 ·obtain rfl:lo=c:=by omega
  obtain rfl:d=0:=by omega
  refine ⟨a,0,fun y=>x8x a _ lo hcM y,a,0,by rw [hlen],fun hp=>by rw [hlen] at hp;omega⟩
end W4
namespace R8
open Go.RowKit Infl Mth Defl
attribute [local go_sem ↓] wp_at_zero wp_at_succ
theorem y5h (last:Bool) (kind:Nat):y0w last kind=head last.toNat kind:=by
 unfold y0w head
 rw [z3s,z3s]
theorem w0d (c:List Nat):(List.range (8*c.length)).map (z4y false c)=z8c c:=by
 refine List.ext_getElem? fun i=>?_
 by_cases h:i<8*c.length
 ·have h2:(z8c c)[i]?=some ((z8c c).getD i false):=by
   rw [List.getD_eq_getElem?_getD,List.getElem?_eq_getElem (by rw [z3m];exact h)]
   rfl
  rw [h2,List.getElem?_map,List.getElem?_range h]
  have h3:=y1e c (i/8) (i%8) (by omega) (by omega)
  rw [show 8*(i/8)+i%8=i by omega] at h3
  rw [h3]
  simp [z4y,rk]
 ·rw [List.getElem?_eq_none (by simpa using h),List.getElem?_eq_none (by rw [z3m];omega)]
theorem x3y (c:List Nat) (last:Bool) (p:Nat):y6i c last p=z1j c last.toNat p:=by
 unfold y6i z1j
 rw [y5h,w0d,z3s,z3s]
 simp only [List.append_assoc]
 rfl
structure PieceIs (w:World) (zs:List Nat) (k fr en N pc:Nat) (a pa:Option Addr) (c:Nat) (last:Bool) (ts:List T):Prop where
 par:∀x,Below w.heap.size w x→Calls Tryz.prog 14 #[.slice a en c,.int .i64 (fr:Int),.int .i64 32768,.int .i64 3,.int .i64 258] x fun e x'=>∃tv,e=.returned tv∧z4m x' tv ts∧Below x.heap.size x x'
 sto:∀ (x:World) (p:Nat),Below w.heap.size w x→p≤1000000000000→Calls Tryz.prog 15 #[.slice pa N pc,.bool last,.int .i64 (p:Int)] x fun e x'=>∃lv,e=.returned lv∧St x x' lv ((z1j (piece zs k fr) last.toNat p).map bi)
 fix:∀x tv,z4m x tv ts→Calls Tryz.prog 16 #[tv,.bool last] x fun e x'=>∃lv,e=.returned lv∧St x x' lv ((z1g ts last.toNat).map bi)
 tol:∀x tv,z4m x tv ts→Calls Tryz.prog 17 #[tv,.bool last] x fun e x'=>∃lv,e=.returned lv∧St x x' lv ((z3a (W4.plOf ts) ts last.toNat).map bi)
 cut:∀y,(Instr.slice 22 (.slice a zs.length c) none (some (.int .i64 (en:Int))) none).run Tryz.prog y=.ok (.slice a en c) y
 cut2:∀y,(Instr.slice 22 (.slice a zs.length c) (some (.int .i64 (fr:Int))) (some (.int .i64 (en:Int))) none).run Tryz.prog y=.ok (.slice pa N pc) y
theorem z4m.on {w w1:World} {v:Value} {ts:List T} (h:z4m w v ts) (hb:Below w.heap.size w w1):z4m w1 v ts:=by
 obtain ⟨a,cap,e,h⟩:=h
 refine ⟨a,cap,e,fun h0=>?_⟩
 obtain ⟨b,off,e1,h2⟩:=h h0
 exact ⟨b,off,e1,fun j hj=>⟨z0a hb (h2 j hj).1,z0a hb (h2 j hj).2.1,z0a hb (h2 j hj).2.2⟩⟩
theorem y3z (a:Option Addr) (n c en:Nat) (h:en≤c) (hc:c≤9223372036854775807) (x:World):(Instr.slice 22 (.slice a n c) none (some (.int .i64 (en:Int))) none).run Tryz.prog x=.ok (.slice a en c) x:=by
 have e1:(en:Int)≤(c:Int):=by omega
 go_simp
theorem w1t {w:World} {zs:List Nat} {k:Nat} {a:Option Addr} {c:Nat} (ht:W4.z2a w a c zs) (hz:∀z∈zs,z<256) (hc:zs.length≤c) (hcM:c≤9223372036854775807) (hk1:1≤k) (hk2:k≤65535) (hn:zs.length≤1048576) (fr:Nat) (hfr:fr<zs.length∨fr=0) (last:Bool) :
  ∃N pc pa,PieceIs w zs k fr (ende zs k fr) N pc a pa c last (W4.tkOf zs fr (ende zs k fr)):=by
 obtain ⟨g1,g2,g3⟩:=W4.y1m zs k fr hfr
 obtain ⟨hok,_,hlen⟩:=W4.y2s hz g1 g2
 have hl9:(W4.tkOf zs fr (ende zs k fr)).length≤1048576:=by omega
 obtain ⟨xa,xc,hx1,hx2⟩:=W4.x9g ht hc hcM fr (ende zs k fr-fr) (by omega)
 rw [show (fr:Int)+((ende zs k fr-fr:Nat):Int)=(ende zs k fr:Int) by omega] at hx1
 have hpe:(zs.drop fr).take (ende zs k fr-fr)=piece zs k fr:=by unfold piece;rw [List.drop_take]
 rw [hpe] at hx2
 have hpl:(piece zs k fr).length≤65535:=by rw [W4.z2r];omega
 refine ⟨ende zs k fr-fr,xc,xa,fun x hb=>?_,fun x p hb hp=>?_,fun x tv hr=>?_,fun x tv hr=>?_,fun y=>y3z a _ c _ (by omega) hcM y,hx1⟩
 ·have hlen:(zs.take (ende zs k fr)).length=ende zs k fr:=by rw [List.length_take];omega
  have hr:T6.z0m x.heap.size x (.slice a (zs.take (ende zs k fr)).length c) (zs.take (ende zs k fr)):=by
   refine ⟨a,c,rfl,by omega,fun h0=>?_⟩
   obtain ⟨b,off,h1,h2,h3⟩:=ht.spot (by omega)
   refine ⟨b,off,h1,Nat.lt_of_lt_of_le h2 hb.size,fun j hj=>?_⟩
   rw [W4.y9s _ _ _ (by omega)]
   exact z0a hb (h3 j (by omega))
  have hp:=T6.y9x (zs.take (ende zs k fr)) a c fr 32768 3 258 x hr (by omega) (by omega) (by omega) (by omega)
  rw [hlen] at hp
  refine hp.mono ?_
  rintro e x' ⟨tv,l,rfl,h1,h2,h3⟩
  have h4:=(W4.y2j (fun z h=>hz z (List.mem_of_mem_take h)) h1).2.2
  obtain ⟨ta,tc,rfl,h5,h6⟩:=W4.x1r h2 h4
  rw [W4.x0h h1]
  refine ⟨_,rfl,⟨ta,tc,rfl,fun h0=>?_⟩,h3⟩
  obtain ⟨b,off,e,_⟩:=h5 0 h0
  refine ⟨b,off,e,fun j hj=>?_⟩
  obtain ⟨b',off',e',q⟩:=h5 j hj
  rw [e] at e'
  injection e' with e'
  injection e' with e1 e2
  subst e1 e2
  exact q
 ·have:=x3r (piece zs k fr) (.slice xa (ende zs k fr-fr) xc) last p x (hx2.stays hb) hpl (fun z hz'=>hz z (List.mem_of_mem_take (List.mem_of_mem_drop hz'))) hp
  rw [x3y] at this
  exact this
 ·have:=x8n _ last tv x hr (fun t ht=>hok.each t ht) hl9
  rw [y5h] at this
  exact this
 ·have:=w2e _ _ _ _ _ _ last tv x hr (w7f hok (by omega)) hl9
  rw [y5h] at this
  rw [←W4.z9g hok (by omega),W4.y7w _ (W4.z5j hok (by omega)).ok.x15 (W4.z5j hok (by omega)).ok.y15]
  unfold Plan.bits z5l
  simp only [List.append_assoc] at this ⊢
  exact this
def part (kind:Nat) (S F D:List Bool):Nat→List Bool
 | 0=>[]
 | 1=>if kind=0∨kind=1 then S else []
 | 2=>if kind=0 then z0x S F else if kind=1 then S else if kind=2 then F else []
 | _=>pick kind S F D
theorem y6x {A B:List Bool} (ha:A≠[]) (hb:B≠[]):z0x A B≠[]:=by
 unfold z0x;split<;>assumption
def x4m (w1 ws:World) (v:Value) (P:List Bool):Prop:=(P=[]∧v=.slice none 0 0)∨(P≠[]∧∃g c,v=.slice (some ⟨g,0,none⟩) P.length c∧ws.ownsRow w1.heap.size 3 1 v P.length (P.map bi))
theorem z3v {w0 w:World} {v:Value} {L:List Bool} (h:St w0 w v (L.map bi)) (hne:L≠[]):∃g c,v=.slice (some ⟨g,0,none⟩) L.length c∧L.length≤c∧w0.heap.size≤g∧∀j,j<L.length→w.cell? ⟨g,j,none⟩=some (bi (L.getD j false)):=by
 have ho:=h.own
 rw [List.length_map] at ho
 have h0:0<L.length:=List.length_pos_iff.2 hne
 rcases ho.2 with ⟨_,e2⟩|⟨g,cap,cur,e1,hb,hg,hn,_,_,ht⟩
 ·omega
 ·refine ⟨g,cap,e1,hn,hb,fun j hj=>?_⟩
  have hx:(L.map bi)[j]?=some (bi (L.getD j false)):=by
   rw [List.getElem?_map,List.getElem?_eq_getElem hj,List.getD_eq_getElem?_getD,List.getElem?_eq_getElem hj]
   rfl
  rw [←ht,List.getElem?_take] at hx
  split at hx
  ·simp only [World.cell?,hg]
   simpa using hx
  ·cases hx
theorem z3i {w1 ws w':World} {v:Value} {L:List Bool} (h:St ws w' v (L.map bi)) (hb:w1.heap.size≤ws.heap.size) (hne:L≠[]):x4m w1 w' v L:=by
 obtain ⟨g,c,e,_⟩:=z3v h hne
 refine .inr ⟨hne,g,c,e,?_⟩
 have ho:=h.own
 rw [List.length_map] at ho
 exact ⟨ho.1,ho.2.imp id fun ⟨g,cap,cur,e,hg,r⟩=>⟨g,cap,cur,e,Nat.le_trans hb hg,r⟩⟩
theorem x1w {w0 w:World} {v:Value} {L:List Bool} (h:St w0 w v (L.map bi)):∃a c,v=.slice a L.length c∧L.length≤c:=by
 have ho:=h.own
 rw [List.length_map] at ho
 rcases ho.2 with ⟨e1,e2⟩|⟨g,cap,cur,e1,hb,hg,hn,_⟩
 ·exact ⟨none,0,by rw [e1,e2],by omega⟩
 ·exact ⟨_,cap,e1,hn⟩
theorem y9t (kind:Nat) (zs:List Nat) (a:Option Addr) (c k:Nat) (w:World) (hkind:kind≤3) (ht:W4.z2a w a c zs) (hz:∀z∈zs,z<256) (hc:zs.length≤c) (hcM:c≤9223372036854775807) (hk1:1≤k) (hk2:k≤65535) (hn:zs.length≤1048576) :
  Calls Tryz.prog 7 #[.slice a zs.length c,.int .i64 (k:Int),.int .i64 (kind:Int)] w fun e w'=>∃g L,L=z6i zs k kind (W4.tkOf zs) W4.plOf (zs.length+1) 0 []∧e=.returned (.tuple #[.slice (some ⟨g,0,none⟩) ((L.length+7)/8) ((L.length+7)/8),.int .i64 0])∧w'.heap[g]?=some (.cells ((pk false ((L.length+7)/8) L).map bv).toArray 5 (0,0))∧w.heap.size≤g∧Below w.heap.size w w':=by
 have HPI:Hid (∀fr,fr<zs.length∨fr=0→∀last,∃N pc pa,PieceIs w zs k fr (ende zs k fr) N pc a pa c last (W4.tkOf zs fr (ende zs k fr))):=qz (fun fr hfr last=>w1t ht hz hc hcM hk1 hk2 hn fr hfr last)
 have HOWN:=qz (W4.x7u zs k hz hk1 hk2 (by omega) kind)
 obtain ⟨n,hN⟩:∃n,n=zs.length:=⟨_,rfl⟩
 have HN:=qz hN
 rw [←hN] at hn hc ⊢
 clear ht hz hN
 have heqn:∀ (w:World) (a:Option Addr) (n c:Nat),(binOp .eql 45 (.slice a n c) (.slice none 0 0)).run Tryz.prog w=.ok (.bool a.isNone) w:=fun w a n c=>Lib.run_eql_slice_nil w 45 3 a n c 0 0 Tryz.underlying45
 have t1:decide ((k:Int)<1)=false:=by simp;omega
 have t2:decide (65535<(k:Int))=false:=by simp;omega
 have t3:¬ (k:Int)<1:=by omega
 have t4:¬65535<(k:Int):=by omega
 have t5:decide ((kind:Int)<0)=false:=by simp
 have t6:decide (3<(kind:Int))=false:=by simp;omega
 have t7:¬ (kind:Int)<0:=by omega
 have t8:¬3<(kind:Int):=by omega
 go_enter Tryz.func7,Tryz.ntmps7
 go_wp2_with fail
 clear t1 t2 t3 t4 t5 t6 t7 t8
 go_loopg [8,9] (n+1) (fun gk o f ws=>∃ (fr:Nat) (L:List Bool),gk=n+1-fr∧f=.int .i64 (fr:Int)∧(fr<n∨fr=0)∧Hid (St w ws o (L.map bi))∧Hid (∃F,z6i zs k kind (W4.tkOf zs) W4.plOf (zs.length+1) 0 []=z6i zs k kind (W4.tkOf zs) W4.plOf (F+1) fr L∧zs.length≤fr+F)∧Hid (L.length≤40000*fr))
 case atStart=>exact ⟨0,[],rfl,rfl,.inr rfl,qz (St.nil w),qz ⟨zs.length,rfl,by omega⟩,qz (by simp)⟩
 case round =>
  obtain ⟨fr,L,rfl,rfl,hfr,HSt,HON,HLE⟩:=hrel
  rename World=>wo
  obtain ⟨s,hs⟩:∃s,s=fr+k:=⟨_,rfl⟩
  have u1:(fr:Int)+(k:Int)=(s:Int):=by omega
  have hs3:s≤2000000:=by omega
  have hfn:fr≤1048576:=by omega
  have HLN:Hid (L.length≤50000000000):=qz (by have:=uh HLE;omega)
  have HS:=qz hs
  have HFR:=qz hfr
  by_cases hl:n≤s
  ·obtain ⟨N,pc,pa,hP⟩:=uh HPI fr (by rw [←uh HN];exact hfr) true
   have HEN:Hid (ende zs k fr=n):=qz (by unfold ende;rw [←uh HN];omega)
   rw [uh HEN] at hP
   obtain ⟨ts,hts⟩:∃ts,ts=W4.tkOf zs fr n:=⟨_,rfl⟩
   rw [←hts] at hP
   obtain ⟨S,hS⟩:∃S,S=z1j (piece zs k fr) (true:Bool).toNat L.length:=⟨_,rfl⟩
   obtain ⟨F,hF⟩:∃F,F=z1g ts (true:Bool).toNat:=⟨_,rfl⟩
   obtain ⟨D,hD⟩:∃D,D=z3a (W4.plOf ts) ts (true:Bool).toNat:=⟨_,rfl⟩
   have HPK:Hid (ownB zs k kind (W4.tkOf zs) W4.plOf fr L.length=pick kind S F D):=qz (by
    have e1:lastOf zs k fr=(true:Bool).toNat:=by rw [W4.y1w,show decide (zs.length≤fr+k)=true by simp;rw [←uh HN];omega]
    unfold ownB
    rw [uh HEN,e1,←hts,←hS,←hF,←hD])
   have HNE:Hid (S≠[]∧F≠[]∧D≠[]):=qz ⟨fun e=>by have:=W4.z6f (piece zs k fr) (true:Bool).toNat L.length;rw [←hS,e] at this;unfold W4.z0o at this;simp at this;omega,fun e=>by have:=W4.y1t ts (true:Bool).toNat;rw [←hF,e] at this;simp at this,fun e=>by have:=W4.y1d ts (true:Bool).toNat;rw [←hD,e] at this;simp at this⟩
   have HP:=qz hP
   have HSS:=qz hS
   have HFF:=qz hF
   have HDD:=qz hD
   have c2:=hP.cut2
   rw [←uh HN] at c2
   have henc:n≤c:=by omega
   have HPA:=qz (hP.par wo (uh HSt).bel)
   clear hP hS hF hD hts hfr hs
   have hln:((n:Int)≤(s:Int)):=by omega
   go_wp2_with fail
   refine (uh HPA).mono ?_
   rintro e w1 ⟨tv,rfl,hrt,hb1⟩
   have HS1:Hid (∀ws,Below w1.heap.size w1 ws→Calls Tryz.prog 15 #[.slice pa N pc,.bool true,.int .i64 (L.length:Int)] ws fun e x'=>∃lv,e=.returned lv∧St ws x' lv (S.map bi)):=qz fun ws hb=>by
    rw [uh HSS]
    have b0:=(uh HSt).bel.trans (hb1.mono (uh HSt).bel.size)
    exact (uh HP).sto ws L.length (b0.trans (hb.mono b0.size)) (by have:=uh HLN;omega)
   have HS2:Hid (∀ws,Below w1.heap.size w1 ws→Calls Tryz.prog 16 #[tv,.bool true] ws fun e x'=>∃lv,e=.returned lv∧St ws x' lv (F.map bi)):=qz fun ws hb=>by
    rw [uh HFF]
    exact (uh HP).fix ws tv (hrt.on hb)
   have HS3:Hid (∀ws,Below w1.heap.size w1 ws→Calls Tryz.prog 17 #[tv,.bool true] ws fun e x'=>∃lv,e=.returned lv∧St ws x' lv (D.map bi)):=qz fun ws hb=>by
    rw [uh HDD]
    exact (uh HP).tol ws tv (hrt.on hb)
   have HSt1:=qz ((uh HSt).later hb1)
   clear hrt hb1 HPA HP HSt
   obtain ⟨oa,oc,ho,hoc⟩:=x1w (uh HSt1)
   rw [ho] at HSt1 ⊢
   clear ho
   generalize hLL:L.length=LL at *
   have HLL:=qz hLL
   clear hLL
   go_wp2_with fail
   go_loopg [13,14] 3 (fun gk o f ws=>∃q:Nat,gk=3-q∧q≤3∧f=.int .i64 ((q:Int)+1)∧Hid (Below w1.heap.size w1 ws)∧Hid (x4m w1 ws o (part kind S F D q)))
   case atStart=>exact ⟨0,by omega,by omega,rfl,qz (Below.refl _ _),qz (.inl ⟨rfl,rfl⟩)⟩
   case round =>
    obtain ⟨q,rfl,hq3,rfl,HBI,HBE⟩:=hrel
    rename World=>ws
    have hq:q=0∨q=1∨q=2∨q=3:=by omega
    rcases hq with rfl|rfl|rfl|rfl
    ·
     by_cases hk0:kind=0
     ·subst hk0
      obtain ⟨_,rfl⟩|⟨hne,_⟩:=uh HBE
      ·go_wp2_with fail
       refine (uh HS1 ws (uh HBI)).mono ?_
       rintro e wx ⟨lv,rfl,hlv⟩
       have HLV:=qz hlv
       have HBX:Hid (Below w1.heap.size w1 wx):=qz ((uh HBI).trans (hlv.bel.mono (uh HBI).size))
       clear hlv
       obtain ⟨gx,cx,rfl,hcx,_,_⟩:=z3v (uh HLV) (uh HNE).1
       go_wp2_with fail
       go_roundg 2
       case measure=>omega
       case rel=>exact ⟨1,rfl,by omega,rfl,HBX,qz (by rw [show part 0 S F D 1=S from rfl];exact z3i (uh HLV) (uh HBI).size (uh HNE).1)⟩
      ·exact absurd rfl hne
     ·have f1:((kind:Int) != 0)=true:=by simp;omega
      by_cases hkK:kind=1
      ·subst hkK
       obtain ⟨_,rfl⟩|⟨hne,_⟩:=uh HBE
       ·go_wp2_with fail
        refine (uh HS1 ws (uh HBI)).mono ?_
        rintro e wx ⟨lv,rfl,hlv⟩
        have HLV:=qz hlv
        have HBX:Hid (Below w1.heap.size w1 wx):=qz ((uh HBI).trans (hlv.bel.mono (uh HBI).size))
        clear hlv
        obtain ⟨gx,cx,rfl,hcx,_,_⟩:=z3v (uh HLV) (uh HNE).1
        go_wp2_with fail
        go_roundg 2
        case measure=>omega
        case rel=>exact ⟨1,rfl,by omega,rfl,HBX,qz (by rw [show part 1 S F D 1=S from rfl];exact z3i (uh HLV) (uh HBI).size (uh HNE).1)⟩
       ·exact absurd rfl hne
      ·have f2:((kind:Int) != 1)=true:=by simp;omega
       have HPE:Hid (part kind S F D 1=part kind S F D 0):=qz (by
        have:kind=1∨kind=2∨kind=3:=by omega
        rcases this with rfl|rfl|rfl<;>first|rfl|omega)
       have HBX:=HBI
       go_wp2_with fail
       go_roundg 2
       case measure=>omega
       case rel=>exact ⟨1,rfl,by omega,rfl,HBX,qz (by rw [uh HPE];exact uh HBE)⟩
    ·
     by_cases hk0:kind=0
     ·subst hk0
      obtain ⟨hne,_⟩|⟨hne,gb,cb,rfl,hob⟩:=uh HBE
      ·exact absurd hne (uh HNE).1
      ·have HOB:=qz hob
       have hpe:part 0 S F D 1=S:=rfl
       rw [hpe] at HOB hne ⊢
       have hnx:part 0 S F D 2=z0x (S) F:=rfl
       have HNX:=qz hnx
       have HNEP:=qz hne
       clear hob hpe hnx hne HBE
       go_wp2_with fail
       refine (uh HS2 ws (uh HBI)).mono ?_
       rintro e wx ⟨lv,rfl,hlv⟩
       have HLV:=qz hlv
       have HBX:Hid (Below w1.heap.size w1 wx):=qz ((uh HBI).trans (hlv.bel.mono (uh HBI).size))
       clear hlv
       obtain ⟨gx,cx,rfl,hcx,_,_⟩:=z3v (uh HLV) (uh HNE).2.1
       have HOB2:=qz (z0y (uh HOB) fun b e=>(uh HLV).bel.block b ((uh HOB).lt b e).2)
       by_cases hlt:F.length<(S).length
       ·have hlti:(F.length:Int)<(((S).length:Nat):Int):=by omega
        go_wp2_with fail
        go_roundg 1
        case measure=>omega
        case rel=>exact ⟨2,rfl,by omega,rfl,HBX,qz (by rw [uh HNX,show z0x (S) F=F from if_pos hlt];exact z3i (uh HLV) (uh HBI).size (uh HNE).2.1)⟩
       ·have hlti:¬ (F.length:Int)<(((S).length:Nat):Int):=by omega
        go_wp2_with fail
        go_roundg 1
        case measure=>omega
        case rel=>exact ⟨2,rfl,by omega,rfl,HBX,qz (by rw [uh HNX,show z0x (S) F=S from if_neg hlt];exact .inr ⟨uh HNEP,gb,cb,rfl,uh HOB2⟩)⟩
     ·have f1:((kind:Int) != 0)=true:=by simp;omega
      by_cases hkK:kind=2
      ·subst hkK
       obtain ⟨_,rfl⟩|⟨hne,_⟩:=uh HBE
       ·go_wp2_with fail
        refine (uh HS2 ws (uh HBI)).mono ?_
        rintro e wx ⟨lv,rfl,hlv⟩
        have HLV:=qz hlv
        have HBX:Hid (Below w1.heap.size w1 wx):=qz ((uh HBI).trans (hlv.bel.mono (uh HBI).size))
        clear hlv
        obtain ⟨gx,cx,rfl,hcx,_,_⟩:=z3v (uh HLV) (uh HNE).2.1
        go_wp2_with fail
        go_roundg 1
        case measure=>omega
        case rel=>exact ⟨2,rfl,by omega,rfl,HBX,qz (by rw [show part 2 S F D 2=F from rfl];exact z3i (uh HLV) (uh HBI).size (uh HNE).2.1)⟩
       ·exact absurd rfl hne
      ·have f2:((kind:Int) != 2)=true:=by simp;omega
       have HPE:Hid (part kind S F D 2=part kind S F D 1):=qz (by
        have:kind=1∨kind=2∨kind=3:=by omega
        rcases this with rfl|rfl|rfl<;>first|rfl|omega)
       have HBX:=HBI
       go_wp2_with fail
       go_roundg 1
       case measure=>omega
       case rel=>exact ⟨2,rfl,by omega,rfl,HBX,qz (by rw [uh HPE];exact uh HBE)⟩
    ·
     by_cases hk0:kind=0
     ·subst hk0
      obtain ⟨hne,_⟩|⟨hne,gb,cb,rfl,hob⟩:=uh HBE
      ·exact absurd hne (y6x (uh HNE).1 (uh HNE).2.1)
      ·have HOB:=qz hob
       have hpe:part 0 S F D 2=z0x S F:=rfl
       rw [hpe] at HOB hne ⊢
       have hnx:part 0 S F D 3=z0x (z0x S F) D:=rfl
       have HNX:=qz hnx
       have HNEP:=qz hne
       clear hob hpe hnx hne HBE
       go_wp2_with fail
       refine (uh HS3 ws (uh HBI)).mono ?_
       rintro e wx ⟨lv,rfl,hlv⟩
       have HLV:=qz hlv
       have HBX:Hid (Below w1.heap.size w1 wx):=qz ((uh HBI).trans (hlv.bel.mono (uh HBI).size))
       clear hlv
       obtain ⟨gx,cx,rfl,hcx,_,_⟩:=z3v (uh HLV) (uh HNE).2.2
       have HOB2:=qz (z0y (uh HOB) fun b e=>(uh HLV).bel.block b ((uh HOB).lt b e).2)
       by_cases hlt:D.length<(z0x S F).length
       ·have hlti:(D.length:Int)<(((z0x S F).length:Nat):Int):=by omega
        go_wp2_with fail
        go_roundg 0
        case measure=>omega
        case rel=>exact ⟨3,rfl,by omega,rfl,HBX,qz (by rw [uh HNX,show z0x (z0x S F) D=D from if_pos hlt];exact z3i (uh HLV) (uh HBI).size (uh HNE).2.2)⟩
       ·have hlti:¬ (D.length:Int)<(((z0x S F).length:Nat):Int):=by omega
        go_wp2_with fail
        go_roundg 0
        case measure=>omega
        case rel=>exact ⟨3,rfl,by omega,rfl,HBX,qz (by rw [uh HNX,show z0x (z0x S F) D=z0x S F from if_neg hlt];exact .inr ⟨uh HNEP,gb,cb,rfl,uh HOB2⟩)⟩
     ·have f1:((kind:Int) != 0)=true:=by simp;omega
      by_cases hkK:kind=3
      ·subst hkK
       obtain ⟨_,rfl⟩|⟨hne,_⟩:=uh HBE
       ·go_wp2_with fail
        refine (uh HS3 ws (uh HBI)).mono ?_
        rintro e wx ⟨lv,rfl,hlv⟩
        have HLV:=qz hlv
        have HBX:Hid (Below w1.heap.size w1 wx):=qz ((uh HBI).trans (hlv.bel.mono (uh HBI).size))
        clear hlv
        obtain ⟨gx,cx,rfl,hcx,_,_⟩:=z3v (uh HLV) (uh HNE).2.2
        go_wp2_with fail
        go_roundg 0
        case measure=>omega
        case rel=>exact ⟨3,rfl,by omega,rfl,HBX,qz (by rw [show part 3 S F D 3=D from rfl];exact z3i (uh HLV) (uh HBI).size (uh HNE).2.2)⟩
       ·exact absurd rfl hne
      ·have f2:((kind:Int) != 3)=true:=by simp;omega
       have HPE:Hid (part kind S F D 3=part kind S F D 2):=qz (by
        have:kind=1∨kind=2∨kind=3:=by omega
        rcases this with rfl|rfl|rfl<;>first|rfl|omega)
       have HBX:=HBI
       go_wp2_with fail
       go_roundg 0
       case measure=>omega
       case rel=>exact ⟨3,rfl,by omega,rfl,HBX,qz (by rw [uh HPE];exact uh HBE)⟩
    ·
     have HPN:Hid (part kind S F D 3=pick kind S F D):=qz rfl
     rw [uh HPN] at HBE
     have HNP:Hid (pick kind S F D≠[]):=qz (by rcases y5u kind S F D with h|h|h<;>rw [h]<;>first|exact (uh HNE).1|exact (uh HNE).2.1|exact (uh HNE).2.2)
     obtain ⟨hne,_⟩|⟨hne,gb,cb,rfl,hob⟩:=uh HBE
     ·exact absurd hne (uh HNP)
     ·have HOB:=qz hob
      have HPL:Hid ((pick kind S F D).length≤40000*k):=qz (by
       have:=uh HOWN fr L.length (by rw [←uh HN];exact uh HFR)
       rw [uh HLL,uh HPK] at this
       exact this)
      generalize pick kind S F D=B at *
      clear hob hne HBE HPN HNE HS1 HS2 HS3
      go_wp2_with (at_builtin;refine z1y rfl _ _ rfl _ _ _ (B.map bi) w1.heap.size (by rfl) (by rfl) ((uh HSt1).later (uh HBI)) (by rw [List.length_map];exact uh HOB) (z2p B) (by have q1:=uh HPL;have q2:=uh HLN;have q3:=uh HLL;simp only [List.length_map];omega) ?_;intro vo w2 h2 _;have HS2:=qz h2;clear h2)
      have HSF:Hid (St w w2 vo ((L++B).map bi)):=qz (by rw [List.map_append];exact uh HS2)
      have HFIN:Hid (L++B=z6i zs k kind (W4.tkOf zs) W4.plOf (n+1) 0 []):=qz (by
       obtain ⟨F',h1,h2⟩:=uh HON
       rw [uh HN,h1,z6i,if_pos (by have:=uh HS;rw [←uh HN];omega),uh HLL,uh HPK])
      have HLB:Hid ((L++B).length≤1000000000000):=qz (by have q1:=uh HPL;have q2:=uh HLN;have q3:=uh HLL;rw [List.length_append];omega)
      obtain ⟨g,cg,rfl,hcg,hwg,hcells⟩:=z3v (uh HSF) (by have:=uh HNP;simp [this])
      have HBY:=qz (y9u (some ⟨g,0,none⟩) cg (L++B) false w2 (fun _=>⟨g,0,rfl,fun j hj=>by rw [Nat.zero_add];exact hcells j hj⟩) (uh HLB))
      have HB2:=qz (uh HSF).bel
      clear hcells HS2 HSF
      generalize L++B=Lf at HBY HFIN HLB ⊢
      go_wp2_with fail
      refine (uh HBY).mono ?_
      rintro e w3 ⟨rfl,k1,k2⟩
      have HK1:=qz k1
      have HK2:Hid (Below w.heap.size w w3):=qz ((uh HB2).trans (k2.mono (uh HB2).size))
      clear k1 k2 HBY
      go_wp2_with fail
      go_ret2
      exact ⟨w2.heap.size,Lf,uh HFIN,rfl,uh HK1,(uh HB2).size,uh HK2⟩
  ·obtain ⟨N,pc,pa,hP⟩:=uh HPI fr (by rw [←uh HN];exact hfr) false
   have HEN:Hid (ende zs k fr=s):=qz (by unfold ende;rw [←uh HN];omega)
   rw [uh HEN] at hP
   obtain ⟨ts,hts⟩:∃ts,ts=W4.tkOf zs fr s:=⟨_,rfl⟩
   rw [←hts] at hP
   obtain ⟨S,hS⟩:∃S,S=z1j (piece zs k fr) (false:Bool).toNat L.length:=⟨_,rfl⟩
   obtain ⟨F,hF⟩:∃F,F=z1g ts (false:Bool).toNat:=⟨_,rfl⟩
   obtain ⟨D,hD⟩:∃D,D=z3a (W4.plOf ts) ts (false:Bool).toNat:=⟨_,rfl⟩
   have HPK:Hid (ownB zs k kind (W4.tkOf zs) W4.plOf fr L.length=pick kind S F D):=qz (by
    have e1:lastOf zs k fr=(false:Bool).toNat:=by rw [W4.y1w,show decide (zs.length≤fr+k)=false by simp;rw [←uh HN];omega]
    unfold ownB
    rw [uh HEN,e1,←hts,←hS,←hF,←hD])
   have HNE:Hid (S≠[]∧F≠[]∧D≠[]):=qz ⟨fun e=>by have:=W4.z6f (piece zs k fr) (false:Bool).toNat L.length;rw [←hS,e] at this;unfold W4.z0o at this;simp at this;omega,fun e=>by have:=W4.y1t ts (false:Bool).toNat;rw [←hF,e] at this;simp at this,fun e=>by have:=W4.y1d ts (false:Bool).toNat;rw [←hD,e] at this;simp at this⟩
   have HP:=qz hP
   have HSS:=qz hS
   have HFF:=qz hF
   have HDD:=qz hD
   have c2:=hP.cut2
   rw [←uh HN] at c2
   have henc:s≤c:=by omega
   have HPA:=qz (hP.par wo (uh HSt).bel)
   clear hP hS hF hD hts hfr hs
   have hln:(¬ (n:Int)≤(s:Int)):=by omega
   go_wp2_with fail
   refine (uh HPA).mono ?_
   rintro e w1 ⟨tv,rfl,hrt,hb1⟩
   have HS1:Hid (∀ws,Below w1.heap.size w1 ws→Calls Tryz.prog 15 #[.slice pa N pc,.bool false,.int .i64 (L.length:Int)] ws fun e x'=>∃lv,e=.returned lv∧St ws x' lv (S.map bi)):=qz fun ws hb=>by
    rw [uh HSS]
    have b0:=(uh HSt).bel.trans (hb1.mono (uh HSt).bel.size)
    exact (uh HP).sto ws L.length (b0.trans (hb.mono b0.size)) (by have:=uh HLN;omega)
   have HS2:Hid (∀ws,Below w1.heap.size w1 ws→Calls Tryz.prog 16 #[tv,.bool false] ws fun e x'=>∃lv,e=.returned lv∧St ws x' lv (F.map bi)):=qz fun ws hb=>by
    rw [uh HFF]
    exact (uh HP).fix ws tv (hrt.on hb)
   have HS3:Hid (∀ws,Below w1.heap.size w1 ws→Calls Tryz.prog 17 #[tv,.bool false] ws fun e x'=>∃lv,e=.returned lv∧St ws x' lv (D.map bi)):=qz fun ws hb=>by
    rw [uh HDD]
    exact (uh HP).tol ws tv (hrt.on hb)
   have HSt1:=qz ((uh HSt).later hb1)
   clear hrt hb1 HPA HP HSt
   obtain ⟨oa,oc,ho,hoc⟩:=x1w (uh HSt1)
   rw [ho] at HSt1 ⊢
   clear ho
   generalize hLL:L.length=LL at *
   have HLL:=qz hLL
   clear hLL
   go_wp2_with fail
   go_loopg [13,14] 3 (fun gk o f ws=>∃q:Nat,gk=3-q∧q≤3∧f=.int .i64 ((q:Int)+1)∧Hid (Below w1.heap.size w1 ws)∧Hid (x4m w1 ws o (part kind S F D q)))
   case atStart=>exact ⟨0,by omega,by omega,rfl,qz (Below.refl _ _),qz (.inl ⟨rfl,rfl⟩)⟩
   case round =>
    obtain ⟨q,rfl,hq3,rfl,HBI,HBE⟩:=hrel
    rename World=>ws
    have hq:q=0∨q=1∨q=2∨q=3:=by omega
    rcases hq with rfl|rfl|rfl|rfl
    ·
     by_cases hk0:kind=0
     ·subst hk0
      obtain ⟨_,rfl⟩|⟨hne,_⟩:=uh HBE
      ·go_wp2_with fail
       refine (uh HS1 ws (uh HBI)).mono ?_
       rintro e wx ⟨lv,rfl,hlv⟩
       have HLV:=qz hlv
       have HBX:Hid (Below w1.heap.size w1 wx):=qz ((uh HBI).trans (hlv.bel.mono (uh HBI).size))
       clear hlv
       obtain ⟨gx,cx,rfl,hcx,_,_⟩:=z3v (uh HLV) (uh HNE).1
       go_wp2_with fail
       go_roundg 2
       case measure=>omega
       case rel=>exact ⟨1,rfl,by omega,rfl,HBX,qz (by rw [show part 0 S F D 1=S from rfl];exact z3i (uh HLV) (uh HBI).size (uh HNE).1)⟩
      ·exact absurd rfl hne
     ·have f1:((kind:Int) != 0)=true:=by simp;omega
      by_cases hkK:kind=1
      ·subst hkK
       obtain ⟨_,rfl⟩|⟨hne,_⟩:=uh HBE
       ·go_wp2_with fail
        refine (uh HS1 ws (uh HBI)).mono ?_
        rintro e wx ⟨lv,rfl,hlv⟩
        have HLV:=qz hlv
        have HBX:Hid (Below w1.heap.size w1 wx):=qz ((uh HBI).trans (hlv.bel.mono (uh HBI).size))
        clear hlv
        obtain ⟨gx,cx,rfl,hcx,_,_⟩:=z3v (uh HLV) (uh HNE).1
        go_wp2_with fail
        go_roundg 2
        case measure=>omega
        case rel=>exact ⟨1,rfl,by omega,rfl,HBX,qz (by rw [show part 1 S F D 1=S from rfl];exact z3i (uh HLV) (uh HBI).size (uh HNE).1)⟩
       ·exact absurd rfl hne
      ·have f2:((kind:Int) != 1)=true:=by simp;omega
       have HPE:Hid (part kind S F D 1=part kind S F D 0):=qz (by
        have:kind=1∨kind=2∨kind=3:=by omega
        rcases this with rfl|rfl|rfl<;>first|rfl|omega)
       have HBX:=HBI
       go_wp2_with fail
       go_roundg 2
       case measure=>omega
       case rel=>exact ⟨1,rfl,by omega,rfl,HBX,qz (by rw [uh HPE];exact uh HBE)⟩
    ·
     by_cases hk0:kind=0
     ·subst hk0
      obtain ⟨hne,_⟩|⟨hne,gb,cb,rfl,hob⟩:=uh HBE
      ·exact absurd hne (uh HNE).1
      ·have HOB:=qz hob
       have hpe:part 0 S F D 1=S:=rfl
       rw [hpe] at HOB hne ⊢
       have hnx:part 0 S F D 2=z0x (S) F:=rfl
       have HNX:=qz hnx
       have HNEP:=qz hne
       clear hob hpe hnx hne HBE
       go_wp2_with fail
       refine (uh HS2 ws (uh HBI)).mono ?_
       rintro e wx ⟨lv,rfl,hlv⟩
       have HLV:=qz hlv
       have HBX:Hid (Below w1.heap.size w1 wx):=qz ((uh HBI).trans (hlv.bel.mono (uh HBI).size))
       clear hlv
       obtain ⟨gx,cx,rfl,hcx,_,_⟩:=z3v (uh HLV) (uh HNE).2.1
       have HOB2:=qz (z0y (uh HOB) fun b e=>(uh HLV).bel.block b ((uh HOB).lt b e).2)
       by_cases hlt:F.length<(S).length
       ·have hlti:(F.length:Int)<(((S).length:Nat):Int):=by omega
        go_wp2_with fail
        go_roundg 1
        case measure=>omega
        case rel=>exact ⟨2,rfl,by omega,rfl,HBX,qz (by rw [uh HNX,show z0x (S) F=F from if_pos hlt];exact z3i (uh HLV) (uh HBI).size (uh HNE).2.1)⟩
       ·have hlti:¬ (F.length:Int)<(((S).length:Nat):Int):=by omega
        go_wp2_with fail
        go_roundg 1
        case measure=>omega
        case rel=>exact ⟨2,rfl,by omega,rfl,HBX,qz (by rw [uh HNX,show z0x (S) F=S from if_neg hlt];exact .inr ⟨uh HNEP,gb,cb,rfl,uh HOB2⟩)⟩
     ·have f1:((kind:Int) != 0)=true:=by simp;omega
      by_cases hkK:kind=2
      ·subst hkK
       obtain ⟨_,rfl⟩|⟨hne,_⟩:=uh HBE
       ·go_wp2_with fail
        refine (uh HS2 ws (uh HBI)).mono ?_
        rintro e wx ⟨lv,rfl,hlv⟩
        have HLV:=qz hlv
        have HBX:Hid (Below w1.heap.size w1 wx):=qz ((uh HBI).trans (hlv.bel.mono (uh HBI).size))
        clear hlv
        obtain ⟨gx,cx,rfl,hcx,_,_⟩:=z3v (uh HLV) (uh HNE).2.1
        go_wp2_with fail
        go_roundg 1
        case measure=>omega
        case rel=>exact ⟨2,rfl,by omega,rfl,HBX,qz (by rw [show part 2 S F D 2=F from rfl];exact z3i (uh HLV) (uh HBI).size (uh HNE).2.1)⟩
       ·exact absurd rfl hne
      ·have f2:((kind:Int) != 2)=true:=by simp;omega
       have HPE:Hid (part kind S F D 2=part kind S F D 1):=qz (by
        have:kind=1∨kind=2∨kind=3:=by omega
        rcases this with rfl|rfl|rfl<;>first|rfl|omega)
       have HBX:=HBI
       go_wp2_with fail
       go_roundg 1
       case measure=>omega
       case rel=>exact ⟨2,rfl,by omega,rfl,HBX,qz (by rw [uh HPE];exact uh HBE)⟩
    ·
     by_cases hk0:kind=0
     ·subst hk0
      obtain ⟨hne,_⟩|⟨hne,gb,cb,rfl,hob⟩:=uh HBE
      ·exact absurd hne (y6x (uh HNE).1 (uh HNE).2.1)
      ·have HOB:=qz hob
       have hpe:part 0 S F D 2=z0x S F:=rfl
       rw [hpe] at HOB hne ⊢
       have hnx:part 0 S F D 3=z0x (z0x S F) D:=rfl
       have HNX:=qz hnx
       have HNEP:=qz hne
       clear hob hpe hnx hne HBE
       go_wp2_with fail
       refine (uh HS3 ws (uh HBI)).mono ?_
       rintro e wx ⟨lv,rfl,hlv⟩
       have HLV:=qz hlv
       have HBX:Hid (Below w1.heap.size w1 wx):=qz ((uh HBI).trans (hlv.bel.mono (uh HBI).size))
       clear hlv
       obtain ⟨gx,cx,rfl,hcx,_,_⟩:=z3v (uh HLV) (uh HNE).2.2
       have HOB2:=qz (z0y (uh HOB) fun b e=>(uh HLV).bel.block b ((uh HOB).lt b e).2)
       by_cases hlt:D.length<(z0x S F).length
       ·have hlti:(D.length:Int)<(((z0x S F).length:Nat):Int):=by omega
        go_wp2_with fail
        go_roundg 0
        case measure=>omega
        case rel=>exact ⟨3,rfl,by omega,rfl,HBX,qz (by rw [uh HNX,show z0x (z0x S F) D=D from if_pos hlt];exact z3i (uh HLV) (uh HBI).size (uh HNE).2.2)⟩
       ·have hlti:¬ (D.length:Int)<(((z0x S F).length:Nat):Int):=by omega
        go_wp2_with fail
        go_roundg 0
        case measure=>omega
        case rel=>exact ⟨3,rfl,by omega,rfl,HBX,qz (by rw [uh HNX,show z0x (z0x S F) D=z0x S F from if_neg hlt];exact .inr ⟨uh HNEP,gb,cb,rfl,uh HOB2⟩)⟩
     ·have f1:((kind:Int) != 0)=true:=by simp;omega
      by_cases hkK:kind=3
      ·subst hkK
       obtain ⟨_,rfl⟩|⟨hne,_⟩:=uh HBE
       ·go_wp2_with fail
        refine (uh HS3 ws (uh HBI)).mono ?_
        rintro e wx ⟨lv,rfl,hlv⟩
        have HLV:=qz hlv
        have HBX:Hid (Below w1.heap.size w1 wx):=qz ((uh HBI).trans (hlv.bel.mono (uh HBI).size))
        clear hlv
        obtain ⟨gx,cx,rfl,hcx,_,_⟩:=z3v (uh HLV) (uh HNE).2.2
        go_wp2_with fail
        go_roundg 0
        case measure=>omega
        case rel=>exact ⟨3,rfl,by omega,rfl,HBX,qz (by rw [show part 3 S F D 3=D from rfl];exact z3i (uh HLV) (uh HBI).size (uh HNE).2.2)⟩
       ·exact absurd rfl hne
      ·have f2:((kind:Int) != 3)=true:=by simp;omega
       have HPE:Hid (part kind S F D 3=part kind S F D 2):=qz (by
        have:kind=1∨kind=2∨kind=3:=by omega
        rcases this with rfl|rfl|rfl<;>first|rfl|omega)
       have HBX:=HBI
       go_wp2_with fail
       go_roundg 0
       case measure=>omega
       case rel=>exact ⟨3,rfl,by omega,rfl,HBX,qz (by rw [uh HPE];exact uh HBE)⟩
    ·
     have HPN:Hid (part kind S F D 3=pick kind S F D):=qz rfl
     rw [uh HPN] at HBE
     have HNP:Hid (pick kind S F D≠[]):=qz (by rcases y5u kind S F D with h|h|h<;>rw [h]<;>first|exact (uh HNE).1|exact (uh HNE).2.1|exact (uh HNE).2.2)
     obtain ⟨hne,_⟩|⟨hne,gb,cb,rfl,hob⟩:=uh HBE
     ·exact absurd hne (uh HNP)
     ·have HOB:=qz hob
      have HPL:Hid ((pick kind S F D).length≤40000*k):=qz (by
       have:=uh HOWN fr L.length (by rw [←uh HN];exact uh HFR)
       rw [uh HLL,uh HPK] at this
       exact this)
      generalize pick kind S F D=B at *
      clear hob hne HBE HPN HNE HS1 HS2 HS3
      go_wp2_with (at_builtin;refine z1y rfl _ _ rfl _ _ _ (B.map bi) w1.heap.size (by rfl) (by rfl) ((uh HSt1).later (uh HBI)) (by rw [List.length_map];exact uh HOB) (z2p B) (by have q1:=uh HPL;have q2:=uh HLN;have q3:=uh HLL;simp only [List.length_map];omega) ?_;intro vo w2 h2 _;have HS2:=qz h2;clear h2)
      go_roundg (n+1-s)
      case measure=>omega
      case rel =>
       refine ⟨s,L++B,rfl,rfl,.inl (by omega),qz (by rw [List.map_append];exact uh HS2),qz ?_,qz ?_⟩
       ·obtain ⟨F',h1,h2⟩:=uh HON
        have hsn:=uh HS
        obtain ⟨F'',rfl⟩:∃F'',F'=F''+1:=⟨F'-1,by have:=uh HN;omega⟩
        refine ⟨F'',?_,by omega⟩
        rw [h1,z6i,if_neg (by rw [←uh HN];omega),uh HLL,uh HPK,←hsn]
       ·have q1:=uh HPL
        have q2:=uh HLE
        have q3:=uh HS
        have q4:=uh HLL
        rw [List.length_append,q3,Nat.mul_add]
        omega
end R8
section
open Go.RowKit Mth Infl
def strOf (o:List Nat):ByteArray:=⟨(o.map UInt8.ofNat).toArray⟩
theorem w0m {w:World} {v:Value} {o:List Nat} (h:Reads w v o) (hs:∀z∈o,z<256):(convert 22 9 v).run Tryz.prog w=.ok (.string (strOf o)) w:=y3l h hs
end
namespace W4
open Go.RowKit Mth Infl Defl
attribute [local go_sem ↓] wp_at_zero wp_at_succ
theorem z2a.on {w w1:World} {a:Option Addr} {c:Nat} {zs:List Nat} (h:z2a w a c zs) (hb:Below w.heap.size w w1):z2a w1 a c zs:=by
 rcases h with h|⟨ad,h1,h2⟩
 ·exact .inl h
 ·exact .inr ⟨ad,h1,fun j u hj=>z0a hb (h2 j u hj)⟩
theorem z2a.reads {w:World} {a:Option Addr} {c:Nat} {zs:List Nat} (h:z2a w a c zs):YtabeanealkopbaaGreat.Reads w (.slice a zs.length c) zs:=by
 refine ⟨a,c,rfl,fun h0=>?_⟩
 rcases h with ⟨_,_,rfl⟩|⟨ad,h1,h2⟩
 ·simp at h0
 ·exact ⟨ad,h1,h2⟩
theorem z8y {w:World} {g n:Nat} {P:List Nat} (h:w.heap[g]?=some (.cells (P.map bv).toArray 5 (0,0))) (hn:P.length=n):z2a w (some ⟨g,0,none⟩) n P:=.inr ⟨_,rfl,fun j u hj=>by
 have ea:(⟨g,0,none⟩:Addr).add j=⟨g,j,none⟩:=by by_cases hq:j=0<;>simp [Addr.add,hq]
 rw [ea]
 simp only [World.cell?,h]
 simpa using hj⟩
theorem w1u (m:Nat) (L:List Bool):∀z∈pk false m L,z<256:=by
 intro z hz
 unfold pk at hz
 rw [List.mem_map] at hz
 obtain ⟨i,_,rfl⟩:=hz
 exact z7n _ _ _
theorem y6s (zs:List Nat) (k kind:Nat) (hz:∀z∈zs,z<256) (hk1:1≤k) (hk2:k≤65535) (hn:zs.length≤10000000):∀ (f fr:Nat) (B:List Bool),B.length≤40000*fr→fr<zs.length∨fr=0→(z6i zs k kind (tkOf zs) plOf f fr B).length≤40000*(zs.length+k)
 | 0,fr,B,h1,h2=>by rw [z6i];omega
 | f+1,fr,B,h1,h2=>by
  have ho:=x7u zs k hz hk1 hk2 hn kind fr B.length h2
  rw [z6i]
  by_cases h:zs.length≤fr+k
  ·rw [if_pos h,List.length_append]
   omega
  ·rw [if_neg h]
   refine y6s zs k kind hz hk1 hk2 hn f (fr+k) _ ?_ (.inl (by omega))
   rw [List.length_append]
   omega
end W4
namespace R8
open Go.RowKit Infl Mth Defl
attribute [local go_sem ↓] wp_at_zero wp_at_succ
structure StB (w0 w:World) (v:Value) (xs:List Nat):Prop where
 own:w.ownsRow w0.heap.size 5 1 v xs.length (xs.map bv)
 bel:Below w0.heap.size w0 w
theorem w5p (l:List Nat):∀u∈l.map bv,u.oneCell'=true:=by
 intro u hu
 obtain ⟨b,_,rfl⟩:=List.mem_map.1 hu
 rfl
theorem x9b (w:World):StB w (w.alloc (.cells #[] 5)) (.slice (some ⟨w.heap.size,0,none⟩) 0 0) ([]:List Nat) :=
 ⟨⟨rfl,.inr ⟨w.heap.size,0,#[],rfl,Nat.le_refl _,heap_alloc_new _ _,Nat.le_refl _,by decide,rfl,rfl⟩⟩,(Below.refl _ _).alloc (Nat.le_refl _) _⟩
theorem x9v {ops:Array Oper} {rest:List Oper} {o:Oper} {a:Act} {Q:Exit→Act→World→Prop} {w w0:World} (hgd:o.guard=none) (s x:Operand)
  (ho:o.op=.call { callee:=.builtin .append,args:=#[s,x],argTypes:=#[22,22] }) (va:Value) (xs ys:List Nat) (ab:Option Addr) (cb:Nat) (hs:a.eval s=va) (hx:a.eval x=.slice ab ys.length cb)
  (hA:StB w0 w va xs) (hB:W4.z2a w ab cb ys) (hcb:ys.length≤cb) (hlen:(xs.length+ys.length)*8≤140737488355328)
  (h:∀v' w',StB w0 w' v' (xs++ys)→wpList Tryz.prog ops Q rest (a.put o.dst v') w'):wpList Tryz.prog ops Q (o :: rest) a w:=by
 obtain ⟨i0,hi,hz0,hz1,hz2⟩:=info_parts info5
 rcases hB with ⟨e1,e2,e3⟩|⟨ad,e1,hc⟩
 ·subst e3
  refine wpList_append_own_none hgd s x 22 ho w0.heap.size 5 i0 1 Tryz.underlying22 hi va xs.length (xs.map bv) hs hA.own (by rw [hx,e1,e2];rfl) ?_
  refine h va w (by rw [List.append_nil];exact hA)
 ·refine wpList_append_own_at w hgd s x 22 ho w0.heap.size 5 i0 (.int .u8 0) 1 1 Tryz.underlying22 hi hz0 hz1 hz2 rfl (by decide) va xs.length (xs.map bv) hs hA.own ad ys.length cb (ys.map bv) (by rw [hx,e1]) (by first|omega|simp) hc (w5p ys) (by unfold maxLen;omega) (by omega) hA.bel.size ?_
  intro v' w' h2 h3 _ h5
  refine h v' w' ⟨by rw [List.length_append,List.map_append];exact h2,hA.bel.grown h3 hA.bel.size (fun k e=>(hA.own.lt k e).1)⟩
theorem StB.text {w0 w:World} {v:Value} {xs:List Nat} (h:StB w0 w v xs):∃a c,v=.slice a xs.length c∧xs.length≤c∧c≤9223372036854775807∧W4.z2a w a c xs∧∀k,k≤xs.length→W4.z2a w a c (xs.take k):=by
 have key:∀ (l:List Nat) (a:Option Addr) (c:Nat) (k:Nat),W4.z2a w a c l→W4.z2a w a c (l.take k):=fun l a c k h=>by
  rcases h with ⟨h1,h2,h3⟩|⟨ad,h1,h2⟩
  ·exact .inl ⟨h1,h2,by rw [h3,List.take_nil]⟩
  ·refine .inr ⟨ad,h1,fun j u hj=>h2 j u ?_⟩
   rw [List.map_take,List.getElem?_take] at hj
   split at hj
   ·exact hj
   ·cases hj
 rcases h.own.2 with ⟨e1,e2⟩|⟨g,cap,cur,e1,hb,hg,hn,hm,_,ht⟩
 ·have:xs=[]:=List.length_eq_zero_iff.1 e2
  subst this
  exact ⟨none,0,e1,Nat.le_refl _,by omega,.inl ⟨rfl,rfl,rfl⟩,fun k _=>by rw [List.take_nil];exact .inl ⟨rfl,rfl,rfl⟩⟩
 ·have ht2:W4.z2a w (some ⟨g,0,none⟩) cap xs:=.inr ⟨_,rfl,fun j u hj=>by
   have ea:(⟨g,0,none⟩:Addr).add j=⟨g,j,none⟩:=by by_cases hq:j=0<;>simp [Addr.add,hq]
   rw [ea]
   have hj':(xs.map bv)[j]?=some u:=hj
   rw [←ht,List.getElem?_take] at hj'
   split at hj'
   ·simp only [World.cell?,hg]
    simpa using hj'
   ·cases hj'⟩
  exact ⟨_,cap,e1,hn,by unfold maxLen at hm;omega,ht2,fun k hk=>key xs _ _ k ht2⟩
theorem y0t (a b:List Nat):strOf (a++b)=strOf a++strOf b:=by
 unfold strOf
 rw [List.map_append]
 apply ByteArray.ext
 rw [ByteArray.data_append]
 simp
theorem y9a (v:Value) (bk kn:Int) (w:World) (h:bk<1∨65535<bk∨kn<0∨3<kn) :
  Calls Tryz.prog 6 #[v,.int .i64 bk,.int .i64 kn] w fun e w'=>e=.returned (.tuple #[.slice none 0 0,.int .i64 2])∧w'=w:=by
 by_cases h1:bk<1<;>by_cases h2:65535<bk<;>by_cases h3:kn<0<;>by_cases h4:3<kn<;>first|omega|skip
 all_goals
  clear h
  go_enter Tryz.func6,Tryz.ntmps6
  go_wp2_with fail
  go_ret2
  exact ⟨rfl,rfl⟩
theorem y7z (v:Value) (bk kn:Int) (w:World) (h:bk<1∨65535<bk∨kn<0∨3<kn) :
  Calls Tryz.prog 7 #[v,.int .i64 bk,.int .i64 kn] w fun e w'=>e=.returned (.tuple #[.slice none 0 0,.int .i64 2])∧w'=w:=by
 by_cases h1:bk<1<;>by_cases h2:65535<bk<;>by_cases h3:kn<0<;>by_cases h4:3<kn<;>first|omega|skip
 all_goals
  clear h
  go_enter Tryz.func7,Tryz.ntmps7
  go_wp2_with fail
  go_ret2
  exact ⟨rfl,rfl⟩
theorem z5n {w:World} {a:Option Addr} {c:Nat} {zs:List Nat} (h:W4.z2a w a c zs) (hz:∀z∈zs,z<256):(convert 22 9 (.slice a zs.length c)).run Tryz.prog w=.ok (.string (strOf zs)) w:=w0m h.reads hz
theorem y4a (l:List Nat):(strOf l).size=l.length:=by simp [strOf,ByteArray.size]
theorem x4c (zs:List Nat) (a:Option Addr) (c:Nat) (bk kn:Int) (w:World) (ht:W4.z2a w a c zs) (hz:∀z∈zs,z<256) (hc:zs.length≤c) (hcM:c≤9223372036854775807) (hn:zs.length≤1048576) (hbk:(Lit.int .i64 bk).wf=true) (hkn:(Lit.int .i64 kn).wf=true) (hml:T6.ML w) :
  Calls Tryz.prog 3 #[.slice a zs.length c,.int .i64 bk,.int .i64 kn] w fun e w'=>e=.returned (.bool true)∧Below w.heap.size w w':=by
 have HTX:Hid (∀x,Below w.heap.size w x→W4.z2a x a c zs):=qz fun x hb=>ht.on hb
 have HZ:=qz hz
 have HML:=qz hml
 obtain ⟨n,hN⟩:∃n,n=zs.length:=⟨_,rfl⟩
 have HN:=qz hN
 rw [←hN] at hc hn ⊢
 clear ht hz hml hN
 go_enter Tryz.func3,Tryz.ntmps3
 have hl0:([]:List Nat).length=0:=rfl
 go_wp2_with (at_builtin;first
  | (refine x9v rfl _ _ rfl _ [] zs a c (by rfl) (by rw [←uh HN];rfl) (x9b w) (uh HTX _ ((Below.refl _ _).alloc (Nat.le_refl _) _)) (by rw [←uh HN];exact hc) (by rw [←uh HN];simp;omega) ?_;intro v5 w5 h5;have H5:=qz h5;clear h5)
  | (refine x9v rfl _ _ rfl _ zs zs a c (by rfl) (by rw [←uh HN];rfl) (uh H5) (uh HTX _ (uh H5).bel) (by rw [←uh HN];exact hc) (by rw [←uh HN];omega) ?_;intro v6 w6 h6;obtain ⟨a6,c6,rfl,hc6,hcM6,t6,t6'⟩:=h6.text;have HB6:=qz h6.bel;have HT6:=qz t6;have HT6n:Hid (W4.z2a w6 a6 c6 zs):=qz (by have:=t6' n (by rw [List.length_append,←uh HN];omega);rw [uh HN,List.take_left] at this;exact this);rw [List.length_append,←uh HN] at hc6;rw [List.length_append,←uh HN];have sl6:∀x,(Instr.slice 22 (.slice a6 (n+n) c6) none (some (.int .i64 (n:Int))) none).run Tryz.prog x=.ok (.slice a6 n c6) x:=fun x=>y3z a6 _ c6 n (by omega) hcM6 x;clear h6 t6 t6'))
 clear H5
 have HSUM:Hid (∀x,Below w6.heap.size w6 x→(convert 22 9 (.slice a6 (n+n) c6)).run Tryz.prog x=.ok (.string (strOf (zs++zs))) x∧(convert 22 9 (.slice a n c)).run Tryz.prog x=.ok (.string (strOf zs)) x):=qz fun x hb=>by
  have q1:=z5n ((uh HT6).on hb) (fun z hz=>by rw [List.mem_append] at hz;exact uh HZ z (hz.elim id id))
  have q2:=z5n (uh HTX x ((uh HB6).trans (hb.mono (uh HB6).size))) (uh HZ)
  rw [List.length_append,←uh HN] at q1
  rw [←uh HN] at q2
  exact ⟨q1,q2⟩
 by_cases hbad:bk<1∨65535<bk∨kn<0∨3<kn
 ·have HB1:=qz fun x=>y9a (.slice a6 n c6) bk kn x hbad
  have HB2:=qz fun x=>y7z (.slice a n c) bk kn x hbad
  clear hbad
  refine (uh HB1 w6).mono ?_
  rintro e w' ⟨rfl,hw'⟩
  rw [hw']
  clear hw' w'
  go_wp2_with fail
  refine (uh HB1 w6).mono ?_
  rintro e w' ⟨rfl,hw'⟩
  rw [hw']
  clear hw' w'
  go_wp2_with fail
  refine (uh HB2 w6).mono ?_
  rintro e w' ⟨rfl,hw'⟩
  rw [hw']
  clear hw' w'
  have cn:∀x,(convert 22 9 (.slice none 0 0)).run Tryz.prog x=.ok (.string (strOf [])) x:=fun x=>z5n (zs:=[]) (.inl ⟨rfl,rfl,rfl⟩) (by simp)
  obtain ⟨cs1,cs2⟩:=uh HSUM w6 (Below.refl _ _)
  rw [y0t] at cs1
  have hss:¬9223372036854775807<(strOf zs).size+(strOf zs).size:=by rw [y4a,←uh HN];omega
  generalize strOf zs=SZ at cs1 cs2 hss
  generalize strOf []=S0 at cn
  go_wp2_with fail
  go_loopg [14] 0 (fun gk f ws=>gk=0∧f=.int .i64 0∧ws=w6)
  case atStart=>exact ⟨rfl,rfl,rfl⟩
  case round =>
   obtain ⟨rfl,rfl,rfl⟩:=hrel
   go_wp2_with fail
   go_ret
   exact ⟨rfl,uh HB6⟩
 ·obtain ⟨K,rfl⟩:=Int.eq_ofNat_of_zero_le (show 0≤bk by omega)
  obtain ⟨kd,rfl⟩:=Int.eq_ofNat_of_zero_le (show 0≤kn by omega)
  have hK1:1≤K:=by omega
  have hK2:K≤65535:=by omega
  have hkd:kd≤3:=by omega
  clear hbad
  obtain ⟨L,hL⟩:∃L,L=z6i zs K kd (W4.tkOf zs) W4.plOf (zs.length+1) 0 []:=⟨_,rfl⟩
  obtain ⟨M,hM⟩:∃M,M=(L.length+7)/8:=⟨_,rfl⟩
  obtain ⟨P,hP⟩:∃P,P=pk false M L:=⟨_,rfl⟩
  have HPL:Hid (P.length=M):=qz (by rw [hP];exact z1h _ _ _)
  have HPS:Hid (∀z∈P,z<256):=qz (by rw [hP];exact W4.w1u _ _)
  have hM9:M≤100000000000:=by
   have:=W4.y6s zs K kd (uh HZ) hK1 hK2 (by rw [←uh HN];omega) (zs.length+1) 0 [] (by simp) (.inr rfl)
   rw [←hL,←uh HN] at this
   omega
  have HD:Hid (∀x,Below w6.heap.size w6 x→Calls Tryz.prog 6 #[.slice a6 n c6,.int .i64 (K:Int),.int .i64 (kd:Int)] x fun e w'=>∃g,e=.returned (.tuple #[.slice (some ⟨g,0,none⟩) M M,.int .i64 0])∧w'.heap[g]?=some (.cells (P.map bv).toArray 5 (0,0))∧x.heap.size≤g∧Below x.heap.size x w'):=qz fun x hb=>by
   have q:=W4.x2t zs a6 c6 K x kd hkd ((uh HT6n).on hb) (uh HZ) (by rw [←uh HN];omega) hcM6 hK1 hK2 (by rw [←uh HN];omega) (T6.ML.stays ((uh HB6).trans (hb.mono (uh HB6).size)) (uh HML))
   rw [←uh HN] at q
   refine q.mono ?_
   rintro e w' ⟨g,L',h1,h2,h3,h4,h5⟩
   rw [uh HN,←hL] at h1
   subst h1
   rw [←hM] at h2 h3
   rw [←hP] at h3
   exact ⟨g,h2,h3,h4,h5⟩
  have HR:Hid (∀x,Below w6.heap.size w6 x→Calls Tryz.prog 7 #[.slice a n c,.int .i64 (K:Int),.int .i64 (kd:Int)] x fun e w'=>∃g,e=.returned (.tuple #[.slice (some ⟨g,0,none⟩) M M,.int .i64 0])∧w'.heap[g]?=some (.cells (P.map bv).toArray 5 (0,0))∧x.heap.size≤g∧Below x.heap.size x w'):=qz fun x hb=>by
   have q:=y9t kd zs a c K x hkd (uh HTX x ((uh HB6).trans (hb.mono (uh HB6).size))) (uh HZ) (by rw [←uh HN];exact hc) hcM hK1 hK2 (by rw [←uh HN];exact hn)
   rw [←uh HN] at q
   refine q.mono ?_
   rintro e w' ⟨g,L',h1,h2,h3,h4,h5⟩
   rw [uh HN,←hL] at h1
   subst h1
   rw [←hM] at h2 h3
   rw [←hP] at h3
   exact ⟨g,h2,h3,h4,h5⟩
  clear hL hM hP HT6 HT6n HTX HML
  refine (uh HD w6 (Below.refl _ _)).mono ?_
  rintro e w7 ⟨g7,rfl,p7,l7,b7⟩
  have HP7:=qz p7
  have HB7:=qz b7
  clear p7 b7
  go_wp2_with fail
  refine (uh HD w7 (uh HB7)).mono ?_
  rintro e w8 ⟨g8,rfl,p8,l8,b8⟩
  have HP8:=qz p8
  have HP78:=qz ((b8.block g7 (z0b (uh HP7))).trans (uh HP7))
  have HB8:Hid (Below w6.heap.size w6 w8):=qz ((uh HB7).trans (b8.mono (uh HB7).size))
  have hg8:g7<g8:=by have:=z0b (uh HP7);omega
  clear p8 b8
  go_wp2_with fail
  refine (uh HR w8 (uh HB8)).mono ?_
  rintro e w9 ⟨g9,rfl,p9,l9,b9⟩
  have HP9:=qz p9
  have HP79:=qz ((b9.block g7 (z0b (uh HP78))).trans (uh HP78))
  have HP89:=qz ((b9.block g8 (z0b (uh HP8))).trans (uh HP8))
  have HB9:Hid (Below w6.heap.size w6 w9):=qz ((uh HB8).trans (b9.mono (uh HB8).size))
  have hg9:g8<g9:=by have:=z0b (uh HP8);omega
  clear p9 b9 HP7 HP78 HP8 HD HR
  have cx:=z5n (W4.z8y (uh HP79) rfl) (uh HPS)
  have cy:=z5n (W4.z8y (uh HP89) rfl) (uh HPS)
  have cw:=z5n (W4.z8y (uh HP9) rfl) (uh HPS)
  rw [uh HPL] at cx cy cw
  obtain ⟨cs1,cs2⟩:=uh HSUM w9 (uh HB9)
  rw [y0t] at cs1
  have hss:¬9223372036854775807<(strOf zs).size+(strOf zs).size:=by rw [y4a,←uh HN];omega
  generalize strOf zs=SZ at cs1 cs2 hss
  obtain ⟨SP,hSP⟩:∃SP,SP=strOf P:=⟨_,rfl⟩
  rw [←hSP] at cx cy cw
  have HSP:=qz hSP
  clear hSP
  go_wp2_with fail
  clear cs1 cs2 hss cx cy cw sl6
  have HBW9:Hid (Below w.heap.size w w9):=qz ((uh HB6).trans ((uh HB9).mono (uh HB6).size))
  have hgw7:w.heap.size≤g7:=by have:=(uh HB6).size;omega
  go_loopg [14] M (fun gk f ws=>∃ (i:Nat) (qs:List Nat),gk=M-i∧f=.int .i64 (i:Int)∧i≤M∧Hid (qs.length=M∧∀z∈qs,z<256)∧Hid (ws.heap[g7]?=some (.cells (qs.map bv).toArray 5 (0,0)))∧Hid (ws.heap[g8]?=some (.cells (P.map bv).toArray 5 (0,0)))∧Hid (ws.heap[g9]?=some (.cells (P.map bv).toArray 5 (0,0)))∧Hid (Below w.heap.size w ws))
  case atStart=>exact ⟨0,P,by omega,rfl,by omega,qz ⟨uh HPL,uh HPS⟩,HP79,HP89,HP9,HBW9⟩
  case round =>
   clear HP79 HP89 HP9 HBW9 HB9 HB8 HB7
   obtain ⟨i,qs,rfl,rfl,hiM,HQ,H7,H8,H9,HBW⟩:=hrel
   rename World=>ws
   by_cases hlt:i<M
   ·have tlt:(i:Int)<(M:Int):=by omega
    have hq:qs.getD i 0<256:=by
     rw [List.getD_eq_getElem?_getD,List.getElem?_eq_getElem (by rw [(uh HQ).1];exact hlt)]
     exact (uh HQ).2 _ (List.getElem_mem _)
    have c1:ws.cell? ⟨g7,i,none⟩=some (.int .u8 ((qs.getD i 0:Nat):Int)):=by
     simp only [World.cell?,uh H7]
     simp [List.getD_eq_getElem?_getD,List.getElem?_eq_getElem (show i<qs.length by rw [(uh HQ).1];exact hlt),bv]
    have c2:ws.frozen? ⟨g7,i,none⟩=false:=by simp [World.frozen?,uh H7]
    obtain ⟨x,hx⟩:∃x,x=qs.getD i 0:=⟨_,rfl⟩
    rw [←hx] at c1 hq
    obtain ⟨y,hy⟩:∃y:Nat,IntKind.u8.wrap ((x:Int)+1)=(y:Int)∧y<256:=⟨(x+1)%256,by simp [IntKind.wrap_u8];try omega,by omega⟩
    obtain ⟨hy1,hy2⟩:=hy
    clear hx
    go_wp2_with fail
    go_roundg (M-(i+1))
    case measure=>omega
    case rel =>
     refine ⟨i+1,qs.set i y,rfl,by go_num,by omega,qz ⟨by rw [List.length_set];exact (uh HQ).1,fun z hz=>?_⟩,qz ?_,qz ?_,qz ?_,qz ((uh HBW).setCell hgw7 _)⟩
     ·rcases List.mem_or_eq_of_mem_set hz with h|h
      ·exact (uh HQ).2 z h
      ·rw [h];exact hy2
     ·rw [heap_setCell_same _ g7 i _ _ _ (uh H7)]
      simp [List.map_set,bv]
     ·rw [heap_setCell_other _ _ _ _ (by show g8≠g7;omega)];exact uh H8
     ·rw [heap_setCell_other _ _ _ _ (by show g9≠g7;omega)];exact uh H9
   ·obtain rfl:i=M:=by omega
    have tlt:¬ (i:Int)<(i:Int):=by omega
    have cy:=z5n (W4.z8y (uh H8) rfl) (uh HPS)
    have cw:=z5n (W4.z8y (uh H9) rfl) (uh HPS)
    rw [uh HPL,←uh HSP] at cy cw
    go_wp2_with fail
    go_ret
    exact ⟨rfl,uh HBW⟩
end R8
namespace W4
open Go.ChangeShapes Go.WideShapes Go.ChangeAt Go.RowKit Go.Deep Go.Joins
theorem own:ownKnob Tryz.prog.godebug=none:=by kernel_rfl
theorem laidOut:laidOutB Tryz.prog=true:=by kernel_rfl
theorem cells5:Tryz.prog.cellsOf 5=1:=by kernel_rfl
theorem w0f {H:Type} (d:DataW H):1≤Rows.uptoBulk d:=by
 cases d with
 | lit l=>cases l<;>simp [Rows.uptoBulk]
 | _=>simp [Rows.uptoBulk]
theorem w0e {H:Type} (l:List (DataW H)):l.length≤Rows.uptoBulkAll l:=by
 induction l with
 | nil=>simp [Rows.uptoBulkAll]
 | cons x r ih=>have:=w0f x;simp only [Rows.uptoBulkAll,List.length_cons];omega
theorem x2n {H:Type} (elems spare:List (DataW H)):elems.length≤Rows.uptoBulk (.slice elems spare):=by
 have:=w0e elems
 simp only [Rows.uptoBulk];omega
variable {H:Type} {enc:TypeId × Value→H} {W:World}
theorem w0g {fuel:Nat} {cs:List Value} {y:DataW H × List MemPlace} (h:DataW.trod enc Tryz.prog W 0 (fun _=>true) true fuel 22 cs=some y) :
  ∃ (a:Option Addr) (cap:Nat) (zs:List Nat),cs=[.slice a zs.length cap]∧zs.length≤cap∧cap≤9223372036854775807∧z2a W a cap zs∧(∀z∈zs,z<256)∧zs.length≤Rows.uptoBulk y.1:=by
 rcases open_ints Tryz.underlying22 Tryz.underlying5 cells5 h with ⟨hcs,hy⟩|⟨x,l,c,ys,hcs,_,hl,hm,hz,hx,hcell,hwz⟩
 ·exact ⟨none,0,[],hcs,Nat.le_refl _,by omega,.inl ⟨rfl,rfl,rfl⟩,by simp,by simp⟩
 ·simp at hz
  have hb:∀y∈ys,0≤y∧y≤255:=fun y hy=>bounds_u8 (hwz y hy)
  have hlen:((ys.take l).map Int.toNat).length=l:=by simp;omega
  refine ⟨some x,c,(ys.take l).map Int.toNat,by rw [hlen];exact hcs,by rw [hlen];exact hl,by unfold maxLen at hm;omega,.inr ⟨x,rfl,fun j u hj=>?_⟩,?_,?_⟩
  ·have hj2:j<l:=by
    have:=(List.getElem?_eq_some_iff.1 hj).1
    simp at this;omega
   rw [hcell j (by omega)]
   rw [List.getElem?_map,List.getElem?_map,List.getElem?_take,if_pos hj2,List.getElem?_eq_getElem (by omega)] at hj
   simp [bv] at hj
   rw [←hj]
   have:=hb ys[j] (List.getElem_mem _)
   simp [show j<ys.length by omega]
   omega
  ·intro z hz'
   obtain ⟨y,hy,rfl⟩:=List.mem_map.1 hz'
   have:=hb y (List.mem_of_mem_take hy)
   omega
  ·rw [hlen]
   have h1:=x2n (lits .u8 (ys.take l):List (DataW H)) (lits .u8 (ys.drop l))
   rw [hx]
   refine Nat.le_trans ?_ h1
   simp [lits];omega
end W4
namespace W4
open Go.ChangeShapes Go.WideShapes Go.ChangeAt Go.RowKit Go.Deep Go.Joins
theorem y8x {H:Type} {enc:TypeId × Value→H} {a:Assume} {C:Checked} {os:Os} {f:FuncId} {fn:Func} {s:OpenSpec} {k:(H:Type)→List (DataW H)→Bool} (hk:s.cond=some k) {F:Stop.Interp} {conds:List PathCond} {apart fresh handsOn again:Bool}
  (own:ownKnob C.prog.godebug=none) (started:os.Started) (noInit:C.prog.inits.idxOf? f=none) (hfn:C.prog.funcs[f]?=some fn)
  (witness:∃ (w:World) (tape:Tape) (i:Input),w.os=os∧(w.forCall tape i).Shaped C.prog∧i.vars=[]∧Input.okWide C.prog (w.forCall tape i) .any w.heap.size f i ∧
   s.pre6 enc C.prog fn conds apart (w.forCall tape i).memory i.args∧a.holds C.prog (lone (Frame.enter C.prog f i.args .normal) [] (w.forCall tape i)))
  (contract:∀ (W:World) (base:Nat) (args:Array Value) (ds gs:List (DataW H)) (before:List MemPlace),
   (∀ (j:Nat) t v,fn.params[j]?=some t→args[j]?=some v→Value.okWide C.prog W .any base t v) →
   DataW.Whole enc C.prog fn.params.toList s.vars apart W args.toList ds gs before →
   conds.all (PathCond.test C.prog ⟨fn.params.toList,ds,s.bare.plain.varTypes C.prog,gs⟩)=true→k H (ds++gs)=true→W.ShapedOpen C.prog →
   a.holds C.prog (lone (Frame.enter C.prog f args .normal) [] W) →
   Calls C.prog f args W fun e W'=>∃v,e=.returned v∧(s.at F).post enc C.prog fn apart fresh handsOn again W args v W') :
  ReturnsInHanded a C os f .any (s.pre6 enc C.prog fn conds apart) ((s.at F).post enc C.prog fn apart fresh handsOn again):=by
 refine returnsInHanded_of_calls own started noInit witness ?_
 intro w tape i _ hsh _ hok hpre hholds
 obtain ⟨_,_,_,fn',hfn',_,_,_,_,hval⟩:=hok
 have e:fn'=fn:=Option.some.inj (hfn'.symm.trans hfn)
 subst e
 obtain ⟨ds,gs,before,hw,hc,hkk⟩:=(OpenSpec.pre_some hk conds apart _ _).1 hpre.1
 have hw':=DataW.Whole.of_heap (w':=w.forCall tape i) (by rfl) hw
 refine (contract (w.forCall tape i) w.heap.size i.args ds gs before hval hw' hc hkk hsh hholds).mono fun e W' ⟨v,he,hp⟩=>?_
 subst he
 exact ChangeSpec.post_blind hp
theorem w6w {W:World} (h:W.ShapedOpen Tryz.prog):T6.ML W:=Tryz.laysM185.s1_3 W h
end W4
end Go.Proofs.YtabeanealkopbaaGreat
section
namespace Go.Proofs.YtabeanealkopbaaGreat.DeflateTellsFrame
open Go.ChangeShapes Go.WideShapes Go.ChangeAt Go.RowKit Go.Deep Go.Joins W4
theorem contract (H:Type) (enc:TypeId × Value→H) (W:World) (base:Nat) (args:Array Value) (ds gs:List (DataW H)) (before:List MemPlace)
  (hval:∀ (j:Nat) t v,Tryz.f3.params[j]?=some t→args[j]?=some v→Value.okWide Tryz.prog W .any base t v)
  (hW:DataW.Whole enc Tryz.prog Tryz.f3.params.toList Rows.deflateTellsSpec.vars false W args.toList ds gs before) (hk:Rows.uptoSmall H (ds++gs)=true) (hml:T6.ML W) :
  Calls Tryz.prog 3 args W fun e W'=>∃v,e=.returned v∧Rows.deflateTellsSpec.post enc Tryz.prog Tryz.f3 false true false false W args v W':=by
 have hW':=hW
 obtain ⟨p,q,hA0,hV,rfl,hfz,hnd⟩:=hW
 have hA:DataW.TrodAll enc Tryz.prog W 0 (fun _=>true) true Tryz.f3.params.toList args.toList ds p:=hA0
 rw [Tryz.params3] at hA hval
 obtain ⟨v0,vs0,d0,ds0,p0,q0,hargs,rfl,rfl,h0,r0⟩:=trodAll_cons hA
 obtain ⟨v1,vs1,d1,ds1,p1,q1,rfl,rfl,rfl,h1,r1⟩:=trodAll_cons r0
 obtain ⟨v2,vs2,d2,ds2,p2,q2,rfl,rfl,rfl,h2,r2⟩:=trodAll_cons r1
 obtain ⟨rfl,rfl,rfl⟩:=trodAll_nil r2
 obtain rfl:args=#[v0,v1,v2]:=by cases args;simp_all
 obtain ⟨rfl,rfl⟩:=trodVars_none hV
 have hbulk:Rows.uptoBulk d0+Rows.uptoBulk d1+Rows.uptoBulk d2≤1048576:=by
  have:=of_decide_eq_true hk
  simp only [List.append_nil,Rows.uptoBulkAll] at this
  omega
 have k0:=h0
 have lt0:∀x∈p0,x.block<W.heap.size:=by obtain ⟨m,hm⟩:=k0;exact DataW.trod_lt m _ _ _ hm
 obtain ⟨xa0,xl0,xc0,rfl⟩:=okWide_slice Tryz.underlying22 (hval 0 22 v0 rfl rfl)
 obtain ⟨fuel0,hf0⟩:=h0
 obtain ⟨a0,cap0,zs0,e0,hc0,hcm0,hr0,hs0,hy0⟩:=w0g hf0
 simp [Value.cells] at e0
 obtain ⟨rfl,rfl,rfl⟩:=e0
 have hn0:zs0.length≤1048576:=by
  try simp only at hy0
  omega
 have k1:=h1
 obtain ⟨I1,rfl,rfl,_,w1⟩:=open_int Tryz.underlying3 (hval 1 3 v1 rfl rfl) h1
 have k2:=h2
 obtain ⟨I2,rfl,rfl,_,w2⟩:=open_int Tryz.underlying3 (hval 2 3 v2 rfl rfl) h2
 clear hA0
 refine (R8.x4c zs0 _ _ I1 I2 W hr0 hs0 hc0 hcm0 hn0 w1 w2 hml).mono fun e W' ⟨he,bel⟩=>?_
 subst he
 exact ⟨_,rfl,_,_,_,[],_,[],hW',trodAll_mk1 (shut_bool Tryz.underlying4 _),(trodAll_cons_mk (Below.trod laidOut (by kernel_rfl) (of_decide_eq_true (by kernel_rfl)) k0 bel lt0) (trodAll_cons_mk (shut_int Tryz.underlying3 w1) (trodAll_cons_mk (shut_int Tryz.underlying3 w2) trodAll_mk0))),rfl,bel.frame _,fun h=>by cases h⟩
theorem lifted (os:Os) (started:os.Started) (H:Type) (enc:TypeId × Value→H) (F:Stop.Interp) :
  ReturnsInHanded {} Tryz.checked os 3 .any ((Rows.OpenSpec.upto Rows.deflateTellsSpec).pre6 enc Tryz.prog Tryz.f3 Rows.deflateTellsUptoRow.domain false) (((Rows.OpenSpec.upto Rows.deflateTellsSpec).at F).post enc Tryz.prog Tryz.f3 false true false false):=by
 refine y8x (C:=Tryz.checked) (s:=Rows.OpenSpec.upto Rows.deflateTellsSpec) (k:=Rows.uptoSmall) rfl own started (by kernel_rfl) Tryz.func3
  (OpenSpec.witness (enc:=enc) (C:=Tryz.checked) (s:=Rows.OpenSpec.upto Rows.deflateTellsSpec) (k:=Rows.uptoSmall) rfl false ⟨#[],#[.slice none 0 0,.int .i64 0,.int .i64 0],[]⟩ 8 (by kernel_rfl) (by kernel_rfl) (by kernel_rfl)
   (x:=([.nil,.lit (.int .i64 0),.lit (.int .i64 0)],[],[])) (by kernel_rfl) rfl (by kernel_rfl)) ?_
 intro W base args ds gs before hval hW _ hk hsh _
 exact contract H enc W base args ds gs before hval hW hk (w6w hsh)
theorem proved:Rows.DeflateTellsUptoSaid :=
 OpenClaim.holds_of_cond 3 Tryz.f3 rfl rfl rfl rfl rfl rfl rfl ⟨rfl,rfl,rfl,rfl,rfl⟩ rfl rfl rfl rfl rfl (by kernel_rfl) Tryz.func3 (by kernel_rfl)
  (of_decide_eq_true (by kernel_rfl)) (by unfold Func.isWrapper;first|(rw [if_pos (by decide +kernel)];kernel_rfl)|(rw [if_neg (by decide +kernel)];exact ⟨rfl,rfl⟩))
  (fun os started H enc _ F=>lifted os started H enc F)
end Go.Proofs.YtabeanealkopbaaGreat.DeflateTellsFrame
namespace Go.Proofs.YtabeanealkopbaaGreat
theorem deflateTellsUpto_holds:Rows.DeflateTellsUptoSaid:=DeflateTellsFrame.proved
end Go.Proofs.YtabeanealkopbaaGreat
end
namespace Go.Proofs.YtabeanealkopbaaGreat
end Go.Proofs.YtabeanealkopbaaGreat
