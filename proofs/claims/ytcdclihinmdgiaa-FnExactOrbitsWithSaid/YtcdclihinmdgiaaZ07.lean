import Derived.Test.YtcdclihinmdgiaaZ06
import Derived.Test.YtcdclihinmdgiaaZ04
import Derived.Laws.OwnMore
namespace Go.Proofs.Ytcdclihinmdgiaa.pm
open arr inv permOf
set_option linter.unusedVariables false
set_option maxRecDepth 100000
def it (ps:List Int) (f:Int):Nat->Int
 | 0=>f
 | m + 1=>ps.getD (it ps f m).toNat 0
def rng (n:Nat):List Int:=(List.range n).map fun (i:Nat)=>(i:Int)
theorem qfw {n:Nat} {x:Int}:x ∈ rng n ↔ 0<=x/\x < n:=by
 unfold rng
 rw [List.mem_map]
 constructor
 ·rintro ⟨i,hi,rfl⟩;simp at hi;omega
 ·intro h;exact ⟨x.toNat,by simp;omega,by omega⟩
theorem qjw (n:Nat):(rng n).Nodup:=by
 unfold rng List.Nodup
 rw [List.pairwise_map]
 exact List.Pairwise.imp (fun h=>by omega) (List.pairwise_lt_range (n:=n))
structure Ren (n:Nat) (ps qs ns:List Int):Prop where
 p:Bij n ps
 q:Bij n qs
 s:Bij n ns
 eq:∀ i,i < n->qs.getD (ns.getD i 0).toNat 0 = ns.getD (ps.getD i 0).toNat 0
end Go.Proofs.Ytcdclihinmdgiaa.pm

namespace Go.Proofs.Ytcdclihinmdgiaa.pm
open arr inv permOf
set_option linter.unusedVariables false
set_option maxRecDepth 100000
def Inv (xs:List Int):List Int:=x9 xs.length xs xs.length
theorem ze (xs:List Int):(Inv xs).length = xs.length:=uf _ _ _
theorem qf0 {xs:List Int} (h:Ok xs) {k:Nat} (hk:k < xs.length):(Inv xs).getD (xs.getD k 0).toNat 0 = (k:Int):=qki h hk
theorem qf1 {xs:List Int} (h:Ok xs) {i:Nat} (hi:i < xs.length):∃ k,k < xs.length/\(Inv xs).getD i 0 = (k:Int)/\xs.getD k 0 = (i:Int):=by
 obtain ⟨k,hk,e⟩:=h.onto hi
 refine ⟨k,hk,?_,e⟩
 have:=qf0 h hk
 rw [e] at this
 simpa using this
theorem cu {xs:List Int} (h:Ok xs):Ok (Inv xs):=by
 refine ⟨by rw [ze];exact h.len,fun i hi=>?_,fun i hi=>?_,fun i j hi hj e=>?_⟩
 ·rw [ze] at hi;obtain ⟨k,_,q,_⟩:=qf1 h hi;omega
 ·rw [ze] at hi ⊢;obtain ⟨k,_,q,_⟩:=qf1 h hi;omega
 ·rw [ze] at hi hj
  obtain ⟨k,_,q,r⟩:=qf1 h hi
  obtain ⟨k',_,q',r'⟩:=qf1 h hj
  have:k = k':=by omega
  subst this
  omega
theorem jo (xs ys:List Int):(thn xs ys).length = xs.length:=by simp [thn]
theorem qca {xs ys:List Int} {i:Nat} (hi:i < xs.length):(thn xs ys).getD i 0 = ys.getD (xs.getD i 0).toNat 0:=by
 simp [thn,List.getD,List.getElem?_eq_getElem hi]
theorem qf2 {xs ys:List Int} (h:Ok xs) (h':Ok ys) (e:xs.length = ys.length):Ok (thn xs ys):=by
 refine ⟨by rw [jo];exact h.len,fun i hi=>?_,fun i hi=>?_,fun i j hi hj q=>?_⟩
 ·rw [jo] at hi;rw [qca hi];exact h'.lo _ (by have:=h.ltN i hi;omega)
 ·rw [jo] at hi ⊢;rw [qca hi,e];exact h'.hi _ (by have:=h.ltN i hi;omega)
 ·rw [jo] at hi hj
  rw [qca hi,qca hj] at q
  have:=h'.inj _ _ (by have:=h.ltN i hi;omega) (by have:=h.ltN j hj;omega) q
  exact h.q3m i j hi hj this
theorem qig {xs:List Int} (h:Ok xs):qzi xs = Inv xs:=by simp [qzi,h.b,Inv]
theorem qbx {xs ys:List Int} (h:Ok xs) (h':Ok ys) (e:xs.length = ys.length):qkg xs ys = thn xs ys:=by
 unfold qkg;rw [if_pos (qc7.2 ⟨h.b,h'.b,e⟩)]
theorem qih {xs ys:List Int} (h:Ok xs) (h':Ok ys) (e:xs.length = ys.length):qxl xs ys = dz xs.length xs ys xs.length:=by
 unfold qxl;rw [if_pos (qc7.2 ⟨h.b,h'.b,e⟩)]
theorem q1h {n:Nat} (h:n<=24):idF (n:Int) = rng n:=by
 unfold idF rng;rw [if_pos ⟨by omega,by omega⟩];simp
theorem qly (n:Nat):(rng n).length = n:=by simp [rng]
theorem qqp {n i:Nat} (h:i < n):(rng n).getD i 0 = (i:Int):=by simp [rng,List.getD,h]
section
variable {p q s:List Int} {n:Nat} (hp:Ok p) (hq:Ok q) (hs:Ok s) (lp:p.length = n) (lq:q.length = n) (ls:s.length = n)
include hp hq lp lq
theorem back_eq:qkg (qzi q) (qzi p) = thn (Inv q) (Inv p):=by
 rw [qig hp,qig hq,qbx (cu hq) (cu hp) (by rw [ze,ze,lp,lq])]
theorem q4b:qkg (qkg p q) (qkg (qzi q) (qzi p)) = idF (n:Int):=by
 have h24:=hp.len
 have okr:=qf2 hp hq (by omega)
 have okb:=qf2 (cu hq) (cu hp) (by rw [ze,ze,lp,lq])
 rw [back_eq hp hq lp lq,qbx hp hq (by omega),qbx okr okb (by rw [jo,jo,ze,lp,lq]),q1h (by omega)]
 refine qao n (by rw [jo,jo,lp]) (qly n) fun i hi=>?_
 have a1:=hp.ltN i (by omega)
 have a2:=hq.ltN _ (show (p.getD i 0).toNat < q.length by omega)
 have e1:(thn p q).getD i 0 = q.getD (p.getD i 0).toNat 0:=qca (by omega)
 rw [qca (by rw [jo];omega),e1,qca (by rw [ze];omega),qf0 hq (by omega),Int.toNat_natCast,qf0 hp (by omega),qqp hi]
theorem qyo:qxl p q = qkg (qkg (qzi q) p) q:=by
 have h24:=hp.len
 have ok1:=qf2 (cu hq) hp (by rw [ze];omega)
 rw [qig hq,qbx (cu hq) hp (by rw [ze];omega),qbx ok1 hq (by rw [jo,ze]),qih hp hq (by omega)]
 refine qao n (by rw [xk,lp]) (by rw [jo,jo,ze,lq]) fun j hj=>?_
 obtain ⟨k,hk,e1,e2⟩:=qf1 hq (i:=j) (by omega)
 rw [qca (by rw [jo,ze];omega),qca (by rw [ze];omega),e1,Int.toNat_natCast]
 have:=qsd (xs:=p) hq (by omega) (k:=k) (by omega)
 rw [e2,Int.toNat_natCast] at this
 exact this
theorem qrh:Ok (qxl p q)/\(qxl p q).length = n:=by
 have ok1:=qf2 (cu hq) hp (by rw [ze];omega)
 rw [qyo hp hq lp lq,qig hq,qbx (cu hq) hp (by rw [ze];omega),qbx ok1 hq (by rw [jo,ze])]
 exact ⟨qf2 ok1 hq (by rw [jo,ze]),by rw [jo,jo,ze,lq]⟩
theorem qri:Ren n p (qxl p q) q:=by
 obtain ⟨h1,h2⟩:=qrh hp hq lp lq
 have b1:=hp.bij;have b2:=h1.bij;have b3:=hq.bij
 rw [lp] at b1;rw [h2] at b2;rw [lq] at b3
 refine ⟨b1,b2,b3,fun i hi=>?_⟩
 rw [qih hp hq (by omega)]
 exact qsd hq (by omega) (by omega)
end
end Go.Proofs.Ytcdclihinmdgiaa.pm

namespace Go.Proofs.Ytcdclihinmdgiaa.pm
open arr inv permOf
set_option linter.unusedVariables false
set_option maxRecDepth 100000
theorem qb1:∀ (l m:List Int),l.Nodup->(∀ x ∈ l,x ∈ m)->l.length<=m.length:=by
 intro l
 induction l with
 | nil=>intros;simp
 | cons a t ih =>
  intro m hd hs
  have hd':=List.nodup_cons.1 hd
  have ha:=hs a (by simp)
  have:=ih (m.erase a) hd'.2 (fun x hx=>(List.mem_erase_of_ne (fun (e:x = a)=>hd'.1 (by rw [<-e];exact hx))).2 (hs x (by simp [hx])))
  rw [List.length_erase_of_mem ha] at this
  have:0 < m.length:=List.length_pos_of_mem ha
  simp
  omega
theorem qd4 {l m:List Int} (hl:l.Nodup) (hs:∀ x ∈ l,x ∈ m) (hlen:m.length<=l.length) {y:Int} (hy:y ∈ m):y ∈ l:=by
 by_cases h:y ∈ l
 ·exact h
 ·have:=qb1 (y :: l) m (List.nodup_cons.2 ⟨h,hl⟩) (fun x hx=>by
   rcases List.mem_cons.1 hx with rfl | hx
   ·exact hy
   ·exact hs x hx)
  simp at this
  omega
theorem qi0 (l:List Int) (x:Int):l <+: add1 l x:=by
 unfold add1;split
 ·exact List.prefix_refl _
 ·exact List.prefix_append _ _
theorem qob (l:List Int) (x:Int):x ∈ add1 l x:=by unfold add1;split <;> simp_all
theorem qz1 (ps qs l:List Int) (k:Nat):l <+: rnd ps qs l k:=by
 unfold rnd;split
 ·exact (qi0 _ _).trans (qi0 _ _)
 ·exact List.prefix_refl _
theorem qoc (ps qs:List Int) (f:Int) {k m:Nat} (h:k<=m):rs ps qs f k <+: rs ps qs f m:=by
 obtain ⟨j,rfl⟩:∃ j,m = k + j:=⟨m - k,by omega⟩
 induction j with
 | zero=>exact List.prefix_refl _
 | succ j ih=>exact (ih (by omega)).trans (qz1 _ _ _ _)
theorem qxn {l m:List Int} (h:l <+: m) {k:Nat} (hk:k < l.length):m.getD k 0 = l.getD k 0:=by
 obtain ⟨t,rfl⟩:=h
 simp only [List.getD]
 rw [List.getElem?_append_left hk]
theorem qod {ps qs:List Int} {f:Int} {k m:Nat} (hk:k < (rs ps qs f m).length) (hm:k<=m):k < (rs ps qs f k).length:=by
 rcases Nat.lt_or_ge k (rs ps qs f k).length with h | h
 ·exact h
 ·rw [ql9 ps qs f h hm] at hk;omega
theorem qe7 {n:Nat} {ps qs:List Int} (hn:ps.length = n) (hp:Maps n ps) (hq:Maps n qs) {f:Int} (f0:0<=f) (f1:f < n) {x:Int} (hx:x ∈ reach ps qs f):ps.getD x.toNat 0 ∈ reach ps qs f/\qs.getD x.toNat 0 ∈ reach ps qs f:=by
 unfold reach at hx ⊢
 rw [hn] at hx ⊢
 obtain ⟨k,hk,e⟩:=qnk hx
 have hl:=(qgc hp hq f0 f1 n).len
 have h1:=qod hk (by omega)
 rw [qxn (qoc ps qs f (show k<=n by omega)) h1] at e
 obtain ⟨z,hz,_,ez⟩:=(qgc hp hq f0 f1 k).at_ h1
 have st:=qix ps qs f h1 ez
 have hpre:=qoc ps qs f (show k + 1<=n by omega)
 rw [ez] at e
 subst e
 rw [Int.toNat_natCast]
 have sub:∀ y,y ∈ rs ps qs f (k + 1)->y ∈ rs ps qs f n:=fun y hy=>hpre.subset hy
 refine ⟨sub _ ?_,sub _ ?_⟩
 ·rw [st];exact (qi0 _ _).subset (qob _ _)
 ·rw [st];exact qob _ _
theorem qge (ps qs:List Int) (f:Int):f ∈ reach ps qs f:=by
 have:=qoc ps qs f (Nat.zero_le ps.length)
 exact this.subset (by simp [rs])
theorem qdu {ps qs:List Int} {f:Int} (C:Int->Prop) (hf:C f) (hc:∀ x,C x->C (ps.getD x.toNat 0)/\C (qs.getD x.toNat 0)) (k:Nat):∀ x ∈ rs ps qs f k,C x:=by
 induction k with
 | zero=>intro x hx;simp [rs] at hx;subst hx;exact hf
 | succ k ih =>
  intro x hx
  have hx':x ∈ rnd ps qs (rs ps qs f k) k:=hx
  unfold rnd at hx'
  split at hx'
  ·rename_i hk
   have hy:=hc _ (ih _ (qff hk))
   unfold add1 at hx'
   split at hx' <;> split at hx' <;> (try simp at hx') <;> (first | exact ih x hx' | skip)
   all_goals
    rcases hx' with q | q
    ·first
      | exact ih x q
      | (rcases q with q | q
         ·exact ih x q
         ·subst q;exact hy.1)
    ·first
      | (subst q;exact hy.1)
      | (subst q;exact hy.2)
      | (rcases q with q | q
         ·subst q;exact hy.1
         ·subst q;exact hy.2)
  ·exact ih x hx'
theorem qdv {n:Nat} {ps l:List Int} (hb:Bij n ps) (hl:In n l) (hc:∀ x ∈ l,ps.getD x.toNat 0 ∈ l) {y:Int} (y0:0<=y) (y1:y < n) (h:ps.getD y.toNat 0 ∈ l):y ∈ l:=by
 have hm:(l.map fun x=>ps.getD x.toNat 0).Nodup:=by
  unfold List.Nodup
  rw [List.pairwise_map]
  refine List.Pairwise.imp_of_mem ?_ hl.nd
  intro a b ha hb' hab e
  have a0:=hl.lo a ha;have a1:=hl.hi a ha;have b0:=hl.lo b hb';have b1:=hl.hi b hb'
  have:=hb.inj _ _ (by omega) (by omega) e
  omega
 have:=qd4 hm (fun x hx=>by obtain ⟨z,hz,rfl⟩:=List.mem_map.1 hx;exact hc z hz) (by simp) h
 obtain ⟨z,hz,e⟩:=List.mem_map.1 this
 have z0:=hl.lo z hz;have z1:=hl.hi z hz
 have:=hb.inj _ _ (by omega) (by omega) e
 have:z = y:=by omega
 exact this ▸ hz
structure Sf (n:Nat) (R U:List Int):Prop where
 r:Ok R
 u:Ok U
 lr:R.length = n
 lu:U.length = n
 pos:0 < n
 all:(reach R U 0).length = n
theorem Sf.br {n:Nat} {R U:List Int} (h:Sf n R U):Bij n R:=by have:=h.r.bij;rw [h.lr] at this;exact this
theorem Sf.bu {n:Nat} {R U:List Int} (h:Sf n R U):Bij n U:=by have:=h.u.bij;rw [h.lu] at this;exact this
theorem ku {R U:List Int}:zh R U = true ↔ Sf R.length R U:=by
 unfold zh
 simp only [Bool.and_eq_true,decide_eq_true_eq,qc7]
 constructor
 ·rintro ⟨⟨⟨h1,h2,h3⟩,h4⟩,h5⟩
  exact ⟨Ok.of R h1,Ok.of U h2,rfl,h3.symm,h4,h5⟩
 ·intro h
  exact ⟨⟨⟨h.r.b,h.u.b,h.lu.symm⟩,h.pos⟩,h.all⟩
theorem Sf.inn {n:Nat} {R U:List Int} (h:Sf n R U) {f:Int} (f0:0<=f) (f1:f < n):In n (reach R U f):=qgc h.br.maps h.bu.maps f0 f1 _
theorem Sf.full {n:Nat} {R U:List Int} (h:Sf n R U) {f:Int} (f0:0<=f) (f1:f < n) {y:Int} (y0:0<=y) (y1:y < n):y ∈ reach R U f:=by
 have hin:=h.inn f0 f1
 have hcl:∀ x ∈ reach R U f,R.getD x.toNat 0 ∈ reach R U f/\U.getD x.toNat 0 ∈ reach R U f:=fun x hx=>qe7 h.lr h.br.maps h.bu.maps f0 f1 hx
 have h0:∀ z:Int,0<=z->z < n->z ∈ reach R U 0:=by
  intro z z0 z1
  have i0:=h.inn (f:=0) (by omega) (by have:=h.pos;omega)
  exact qd4 i0.nd (m:=rng n) (fun x hx=>qfw.2 ⟨i0.lo x hx,i0.hi x hx⟩) (by rw [h.all];simp [rng]) (qfw.2 ⟨z0,z1⟩)
 by_cases hz:(0:Int) ∈ reach R U f
 ·have:=qdu (ps:=R) (qs:=U) (f:=0) (fun x=>x ∈ reach R U f) hz hcl R.length y
  exact this (h0 y y0 y1)
 ·exfalso
  have:=qdu (ps:=R) (qs:=U) (f:=0) (fun x=>(0<=x/\x < n)/\¬ x ∈ reach R U f) ⟨⟨by omega,by have:=h.pos;omega⟩,hz⟩ (by
   rintro x ⟨⟨x0,x1⟩,hx⟩
   have m1:=h.br.maps x.toNat (by omega);have m2:=h.bu.maps x.toNat (by omega)
   exact ⟨⟨m1,fun q=>hx (qdv h.br hin (fun x hx=>(hcl x hx).1) x0 x1 q)⟩,⟨m2,fun q=>hx (qdv h.bu hin (fun x hx=>(hcl x hx).2) x0 x1 q)⟩⟩) R.length f (h0 f f0 f1)
  exact this.2 (qge R U f)
theorem Sf.q2d {n:Nat} {R U:List Int} (h:Sf n R U) {f:Int} (f0:0<=f) (f1:f < n):(reach R U f).length = n:=by
 have h1:=(h.inn f0 f1).len
 have h2:=qb1 (rng n) (reach R U f) (qjw n) (fun x hx=>by rw [qfw] at hx;exact h.full f0 f1 hx.1 hx.2)
 rw [qly] at h2
 omega
theorem In.ok {n:Nat} {l:List Int} (h:In n l) (hl:l.length = n) (h24:n<=24):Ok l:=by
 refine ⟨by omega,fun i hi=>h.lo _ (qff hi),fun i hi=>?_,fun i j hi hj e=>qhl h.nd hi hj e⟩
 have:=h.hi _ (qff hi);omega
theorem Sf.rok {n:Nat} {R U:List Int} (h:Sf n R U) {f:Int} (f0:0<=f) (f1:f < n):Ok (reach R U f):=(h.inn f0 f1).ok (h.q2d f0 f1) (by have:=h.r.len;have:=h.lr;omega)
def nm (R U:List Int) (f:Int):List Int:=Inv (reach R U f)
theorem Sf.nok {n:Nat} {R U:List Int} (h:Sf n R U) {f:Int} (f0:0<=f) (f1:f < n):Ok (nm R U f)/\(nm R U f).length = n:=⟨cu (h.rok f0 f1),by unfold nm;rw [ze,h.q2d f0 f1]⟩
structure Iso (n:Nat) (R U R' U' ns:List Int):Prop where
 s:Sf n R U
 okn:Ok ns
 ln:ns.length = n
 r:Ren n R R' ns
 u:Ren n U U' ns
theorem qoe {n:Nat} {ns l:List Int} (hb:Bij n ns) (hl:In n l) {x:Int} (x0:0<=x) (x1:x < n):add1 (l.map fun y=>ns.getD y.toNat 0) (ns.getD x.toNat 0) = (add1 l x).map fun y=>ns.getD y.toNat 0:=by
 have e:ns.getD x.toNat 0 ∈ (l.map fun y=>ns.getD y.toNat 0) ↔ x ∈ l:=by
  rw [List.mem_map]
  constructor
  ·rintro ⟨y,hy,q⟩
   have:=hl.lo y hy;have:=hl.hi y hy
   have:=hb.inj _ _ (by omega) (by omega) q
   have:y = x:=by omega
   exact this ▸ hy
  ·intro h;exact ⟨x,h,rfl⟩
 unfold add1
 by_cases h:x ∈ l
 ·rw [if_pos h,if_pos (e.2 h)]
 ·rw [if_neg h,if_neg (fun q=>h (e.1 q))];simp
theorem Iso.q3w {n:Nat} {R U R' U' ns:List Int} (h:Iso n R U R' U' ns) {f:Int} (f0:0<=f) (f1:f < n) (k:Nat):rs R' U' (ns.getD f.toNat 0) k = (rs R U f k).map fun y=>ns.getD y.toNat 0:=by
 induction k with
 | zero=>rfl
 | succ k ih =>
  have hin:=qgc h.s.br.maps h.s.bu.maps f0 f1 k
  show rnd R' U' _ k = (rnd R U _ k).map _
  rw [ih]
  unfold rnd
  rw [List.length_map]
  split
  ·rename_i hk
   obtain ⟨z,hz,_,ez⟩:=hin.at_ hk
   have e1:((rs R U f k).map fun y=>ns.getD y.toNat 0).getD k 0 = ns.getD z 0:=by
    simp only [List.getD,List.getElem?_map,List.getElem?_eq_getElem hk,Option.map_some,Option.getD_some]
    have:(rs R U f k)[k] = (z:Int):=by rw [<-ez];simp [List.getD,List.getElem?_eq_getElem hk]
    rw [this];simp
   have m1:=h.s.br.maps z hz;have m2:=h.s.bu.maps z hz
   rw [e1,ez,Int.toNat_natCast,h.r.eq z hz,h.u.eq z hz,qoe h.r.s hin m1.1 m1.2,qoe h.r.s (hin.add m1.1 m1.2) m2.1 m2.2]
  ·rfl
theorem Iso.qvx {n:Nat} {R U R' U' ns:List Int} (h:Iso n R U R' U' ns) (hl:R'.length = n) {f:Int} (f0:0<=f) (f1:f < n):reach R' U' (ns.getD f.toNat 0) = (reach R U f).map fun y=>ns.getD y.toNat 0:=by
 unfold reach;rw [hl,h.s.lr];exact h.q3w f0 f1 n
end Go.Proofs.Ytcdclihinmdgiaa.pm

namespace Go.Proofs.Ytcdclihinmdgiaa.pm
open arr inv permOf
set_option linter.unusedVariables false
set_option maxRecDepth 100000
abbrev Sur:=List Int × List Int
def Fm (R U:List Int) (n:Nat) (f:Int):Sur:=(dz n R (nm R U f) n,dz n U (nm R U f) n)
theorem q3x {n:Nat} {R U ns:List Int} (s:Sf n R U) (hn:Ok ns) (ln:ns.length = n):Iso n R U (dz n R ns n) (dz n U ns n) ns/\Sf n (dz n R ns n) (dz n U ns n):=by
 have eR:qxl R ns = dz n R ns n:=by rw [qih s.r hn (by rw [s.lr,ln]),s.lr]
 have eU:qxl U ns = dz n U ns n:=by rw [qih s.u hn (by rw [s.lu,ln]),s.lu]
 have rR:=qri s.r hn s.lr ln;have rU:=qri s.u hn s.lu ln
 have oR:=qrh s.r hn s.lr ln;have oU:=qrh s.u hn s.lu ln
 rw [eR] at rR oR;rw [eU] at rU oU
 have iso:Iso n R U (dz n R ns n) (dz n U ns n) ns:=⟨s,hn,ln,rR,rU⟩
 refine ⟨iso,oR.1,oU.1,oR.2,oU.2,s.pos,?_⟩
 obtain ⟨g,hg,e⟩:=hn.onto (y:=0) (by have:=s.pos;omega)
 have:=iso.qvx oR.2 (f:=(g:Int)) (by omega) (by omega)
 rw [Int.toNat_natCast,e] at this
 have e0:((0:Nat):Int) = 0:=rfl
 rw [e0] at this
 rw [this,List.length_map,s.q2d (by omega) (by omega)]
def y5:List Int->List Int->Bool
 | a :: s,b :: t=>if a = b then y5 s t else decide (a < b)
 | _,_=>false
theorem qd5 (a:List Int):y5 a a = false:=by
 induction a with
 | nil=>rfl
 | cons x t ih=>simp [y5,ih]
theorem qgf:∀ (a b:List Int),a.length = b.length->a ≠ b->y5 a b = true\/y5 b a = true:=by
 intro a
 induction a with
 | nil=>intro b hl hne;cases b with
  | nil=>exact absurd rfl hne
  | cons y t=>simp at hl
 | cons x s ih =>
  intro b hl hne
  cases b with
  | nil=>simp at hl
  | cons y t =>
   simp only [y5]
   by_cases e:x = y
   ·subst e
    simp only [if_true]
    exact ih t (by simpa using hl) (fun q=>hne (by rw [q]))
   ·rw [if_neg e,if_neg (fun q=>e q.symm)]
    simp only [decide_eq_true_eq]
    omega
theorem qgg:∀ (a b c:List Int),y5 a b = true->y5 b c = true->y5 a c = true:=by
 intro a
 induction a with
 | nil=>intro b c h;simp [y5] at h
 | cons x s ih =>
  intro b c h1 h2
  cases b with
  | nil=>simp [y5] at h1
  | cons y t =>
   cases c with
   | nil=>simp [y5] at h2
   | cons z u =>
    simp only [y5] at h1 h2 ⊢
    by_cases e1:x = y
    ·subst e1
     rw [if_pos rfl] at h1
     by_cases e2:x = z
     ·subst e2;rw [if_pos rfl] at h2 ⊢;exact ih t u h1 h2
     ·rw [if_neg e2] at h2 ⊢;exact h2
    ·rw [if_neg e1] at h1
     simp only [decide_eq_true_eq] at h1
     by_cases e2:y = z
     ·subst e2;rw [if_neg e1];simpa using h1
     ·rw [if_neg e2] at h2
      simp only [decide_eq_true_eq] at h2
      rw [if_neg (by omega)]
      simp only [decide_eq_true_eq]
      omega
def bef (a b:Sur):Bool:=if a.1 = b.1 then y5 a.2 b.2 else y5 a.1 b.1
theorem qgh (a:Sur):bef a a = false:=by simp [bef,qd5]
theorem qgi {a b:Sur} (h1:a.1.length = b.1.length) (h2:a.2.length = b.2.length) (hne:a ≠ b):bef a b = true\/bef b a = true:=by
 unfold bef
 by_cases e:a.1 = b.1
 ·rw [if_pos e,if_pos e.symm]
  exact qgf _ _ h2 (fun q=>hne (Prod.ext e q))
 ·rw [if_neg e,if_neg (fun q=>e q.symm)]
  exact qgf _ _ h1 e
theorem qbi {a b c:Sur} (h1:bef a b = true) (h2:bef b c = true):bef a c = true:=by
 unfold bef at *
 by_cases e1:a.1 = b.1
 ·rw [if_pos e1] at h1
  by_cases e2:b.1 = c.1
  ·rw [if_pos e2] at h2;rw [if_pos (e1.trans e2)];exact qgg _ _ _ h1 h2
  ·rw [if_neg e2] at h2;rw [if_neg (fun q=>e2 (e1.symm.trans q)),e1];exact h2
 ·rw [if_neg e1] at h1
  by_cases e2:b.1 = c.1
  ·rw [if_neg (fun q=>e1 (q.trans e2.symm)),<-e2];exact h1
  ·rw [if_neg e2] at h2
   have:=qgg _ _ _ h1 h2
   rw [if_neg (fun q=>by rw [q,qd5] at this;cases this)]
   exact this
def qhe (F:Int->Sur):Nat->Sur
 | 0=>F 0
 | k + 1=>if bef (F ((k:Int) + 1)) (qhe F k) then F ((k:Int) + 1) else qhe F k
theorem qof (F:Int->Sur) (k:Nat):∃ j:Nat,j<=k/\qhe F k = F (j:Int):=by
 induction k with
 | zero=>exact ⟨0,Nat.le_refl _,rfl⟩
 | succ k ih =>
  obtain ⟨j,hj,e⟩:=ih
  rw [qhe];split
  ·exact ⟨k + 1,Nat.le_refl _,by simp⟩
  ·exact ⟨j,by omega,e⟩
theorem qsq (F:Int->Sur) (k:Nat):∀ i:Nat,i<=k->bef (F (i:Int)) (qhe F k) = false:=by
 induction k with
 | zero=>intro i hi;obtain rfl:i = 0:=by omega
         exact qgh _
 | succ k ih =>
  intro i hi
  rw [qhe];split
  ·rename_i h
   by_cases e:i = k + 1
   ·subst e;simp [qgh]
   ·cases q:bef (F (i:Int)) (F ((k:Int) + 1)) with
    | false=>rfl
    | true=>have:=qbi q h;rw [ih i (by omega)] at this;cases this
  ·rename_i h
   by_cases e:i = k + 1
   ·subst e;simpa using h
   ·exact ih i (by omega)
def can (R U:List Int) (n:Nat):Sur:=qhe (Fm R U n) (n - 1)
theorem qd6 (R U:List Int) (n:Nat) (f:Int):(Fm R U n f).1.length = n/\(Fm R U n f).2.length = n:=⟨xk _ _ _ _,xk _ _ _ _⟩
theorem qog {R U:List Int} {n:Nat} (h:0 < n):∃ j:Nat,j < n/\can R U n = Fm R U n (j:Int):=by
 obtain ⟨j,hj,e⟩:=qof (Fm R U n) (n - 1)
 exact ⟨j,by omega,e⟩
theorem qz2 {R U:List Int} {n i:Nat} (hi:i < n):bef (Fm R U n (i:Int)) (can R U n) = false:=qsq _ _ i (by omega)
theorem Sf.qmd {n:Nat} {R U:List Int} (s:Sf n R U):∃ ns,Iso n R U (can R U n).1 (can R U n).2 ns/\Sf n (can R U n).1 (can R U n).2:=by
 obtain ⟨j,hj,e⟩:=qog (R:=R) (U:=U) s.pos
 obtain ⟨k,l⟩:=s.nok (f:=(j:Int)) (by omega) (by omega)
 rw [e]
 exact ⟨_,q3x s k l⟩
end Go.Proofs.Ytcdclihinmdgiaa.pm

namespace Go.Proofs.Ytcdclihinmdgiaa.pm
open arr inv permOf
set_option linter.unusedVariables false
set_option maxRecDepth 100000
section
variable {n:Nat} {R U:List Int} (s:Sf n R U) {f g h:Int} (f0:0<=f) (f1:f < n) (h0:0<=h) (h1:h < n)
include s f0 f1 h0 h1
end
def sym (R U:List Int) (n:Nat):Nat:=(rng n).countP fun h=>decide (Fm R U n h = can R U n)
end Go.Proofs.Ytcdclihinmdgiaa.pm

namespace Go.Proofs.Ytcdclihinmdgiaa.pm
open arr inv permOf
set_option linter.unusedVariables false
set_option maxRecDepth 100000
theorem qx0 {q:List Int} (h:Ok q):Inv (Inv q) = q:=by
 refine qao q.length (by rw [ze,ze]) rfl fun i hi=>?_
 have hk:=cu h
 have m:=h.maps i hi
 have a:=qf0 hk (k:=(q.getD i 0).toNat) (by rw [ze];omega)
 rw [qf0 h hi,Int.toNat_natCast] at a
 rw [a]
 omega
theorem qqm {q:List Int} (h:Ok q) {x:Int} (x0:0<=x) (x1:x < q.length):q.getD ((Inv q).getD x.toNat 0).toNat 0 = x:=by
 obtain ⟨k,hk,e1,e2⟩:=qf1 h (i:=x.toNat) (by omega)
 rw [e1,Int.toNat_natCast,e2]
 omega
theorem qm5 {q:List Int} (h:Ok q) {x:Int} (x0:0<=x) (x1:x < q.length):(Inv q).getD (q.getD x.toNat 0).toNat 0 = x:=by
 rw [qf0 h (k:=x.toNat) (by omega)];omega
theorem Sf.of_closed {n:Nat} {R U R' U':List Int} (s:Sf n R U) (r':Ok R') (u':Ok U') (lr':R'.length = n) (lu':U'.length = n)
  (hc:∀ C:List Int,In n C->(∀ x ∈ C,R'.getD x.toNat 0 ∈ C/\U'.getD x.toNat 0 ∈ C)->∀ x ∈ C,R.getD x.toNat 0 ∈ C/\U.getD x.toNat 0 ∈ C):Sf n R' U':=by
 have b1:Bij n R':=by have:=r'.bij;rw [lr'] at this;exact this
 have b2:Bij n U':=by have:=u'.bij;rw [lu'] at this;exact this
 have hp:=s.pos
 have hin:In n (reach R' U' 0):=qgc b1.maps b2.maps (by omega) (by omega) _
 have hcl:∀ x ∈ reach R' U' 0,R'.getD x.toNat 0 ∈ reach R' U' 0/\U'.getD x.toNat 0 ∈ reach R' U' 0:=fun x hx=>qe7 lr' b1.maps b2.maps (by omega) (by omega) hx
 have:=qdu (ps:=R) (qs:=U) (f:=0) (fun x=>x ∈ reach R' U' 0) (qge _ _ _) (hc _ hin hcl) R.length
 refine ⟨r',u',lr',lu',hp,?_⟩
 have h1:=qb1 (rng n) (reach R' U' 0) (qjw n) (fun x hx=>by
  rw [qfw] at hx
  exact this x (s.full (f:=0) (by omega) (by omega) hx.1 hx.2))
 rw [qly] at h1
 have:=hin.len
 omega
theorem qej {n:Nat} {q C:List Int} (hq:Ok q) (lq:q.length = n) (hC:In n C) (hc:∀ x ∈ C,(Inv q).getD x.toNat 0 ∈ C):∀ x ∈ C,q.getD x.toNat 0 ∈ C:=by
 intro x hx
 have x0:=hC.lo x hx;have x1:=hC.hi x hx
 have b:Bij n (Inv q):=by have:=(cu hq).bij;rw [ze,lq] at this;exact this
 have m:=hq.maps x.toNat (by omega)
 refine qdv b hC hc m.1 (by omega) ?_
 rw [qm5 hq x0 (by omega)]
 exact hx
theorem qt8 {n:Nat} {q C:List Int} (hq:Ok q) (lq:q.length = n) (hC:In n C) (hc:∀ x ∈ C,q.getD x.toNat 0 ∈ C):∀ x ∈ C,(Inv q).getD x.toNat 0 ∈ C:=by
 have:=qej (cu hq) (n:=n) (by rw [ze];exact lq) hC (by rw [qx0 hq];exact hc)
 exact this
def qhg (s:Sur):Sur:=(s.1,thn (Inv s.1) s.2)
def qdy (s:Sur):Sur:=(s.1,thn s.1 s.2)
def qqn (s:Sur):Sur:=(Inv s.2,s.1)
def qfs (s:Sur):Sur:=(s.2,Inv s.1)
section
variable {n:Nat} {R U:List Int} (s:Sf n R U)
include s
theorem qm6:Sf n (qhg (R,U)).1 (qhg (R,U)).2:=by
 refine s.of_closed s.r (qf2 (cu s.r) s.u (by rw [ze,s.lr,s.lu])) s.lr (by show (thn (Inv R) U).length = n;rw [jo,ze];exact s.lr) fun C hC hc x hx=>?_
 have h1:R.getD x.toNat 0 ∈ C:=(hc x hx).1
 refine ⟨h1,?_⟩
 have h2:(thn (Inv R) U).getD (R.getD x.toNat 0).toNat 0 ∈ C:=(hc _ h1).2
 have x0:=hC.lo x hx;have x1:=hC.hi x hx
 have m:=s.r.maps x.toNat (by have:=s.lr;omega)
 have lr:=s.lr
 rw [qca (by rw [ze];omega),qm5 s.r x0 (by omega)] at h2
 exact h2
theorem qhh:Sf n (qdy (R,U)).1 (qdy (R,U)).2:=by
 refine s.of_closed s.r (qf2 s.r s.u (by rw [s.lr,s.lu])) s.lr (by show (thn R U).length = n;rw [jo];exact s.lr) fun C hC hc x hx=>?_
 refine ⟨(hc x hx).1,?_⟩
 have lr:=s.lr
 have x0:=hC.lo x hx;have x1:=hC.hi x hx
 have hi:=qt8 s.r s.lr hC (fun x hx=>(hc x hx).1) x hx
 have h2:=(hc _ hi).2
 have i0:=hC.lo _ hi;have i1:=hC.hi _ hi
 change (thn R U).getD _ 0 ∈ C at h2
 rw [qca (by omega),qqm s.r x0 (by omega)] at h2
 exact h2
theorem qqo:Sf n (qqn (R,U)).1 (qqn (R,U)).2:=by
 refine s.of_closed (cu s.u) s.r (by show (Inv U).length = n;rw [ze];exact s.lu) s.lr fun C hC hc x hx=>?_
 exact ⟨(hc x hx).2,qej s.u s.lu hC (fun x hx=>(hc x hx).1) x hx⟩
theorem qjk:Sf n (qfs (R,U)).1 (qfs (R,U)).2:=by
 refine s.of_closed s.u (cu s.r) s.lu (by show (Inv R).length = n;rw [ze];exact s.lr) fun C hC hc x hx=>?_
 exact ⟨qej s.r s.lr hC (fun x hx=>(hc x hx).2) x hx,(hc x hx).1⟩
end
end Go.Proofs.Ytcdclihinmdgiaa.pm

namespace Go.Proofs.Ytcdclihinmdgiaa.pm
open arr inv permOf
set_option linter.unusedVariables false
set_option maxRecDepth 100000
def isL (c:UInt8):Bool:=decide (c.toNat = 84) || decide (c.toNat = 116) || decide (c.toNat = 83) || decide (c.toNat = 115)
def qa2 (c:UInt8) (s:Sur):Sur:=if c.toNat = 84 then qhg s else if c.toNat = 116 then qdy s else if c.toNat = 83 then qqn s else qfs s
def q4o (w:List UInt8) (s:Sur):Sur:=w.foldl (fun s c=>qa2 c s) s
theorem qep {n:Nat} {R U:List Int} (s:Sf n R U) (c:UInt8):Sf n (qa2 c (R,U)).1 (qa2 c (R,U)).2:=by
 unfold qa2
 split
 ·exact qm6 s
 ·split
  ·exact qhh s
  ·split
   ·exact qqo s
   ·exact qjk s
theorem qy6 {c:UInt8}:isL c = true ↔ c.toNat = 84\/c.toNat = 116\/c.toNat = 83\/c.toNat = 115:=by simp [isL,or_assoc]
end Go.Proofs.Ytcdclihinmdgiaa.pm

namespace Go.Proofs.Ytcdclihinmdgiaa.orb
open pm
set_option linter.unusedVariables false
set_option maxRecDepth 100000
def cn (s:Sur):Sur:=can s.1 s.2 s.1.length
def fnd:List Sur->Sur->Int
 | [],_=>-1
 | y :: L,x=>if y = x then 0 else if fnd L x < 0 then -1 else fnd L x + 1
theorem qke (L:List Sur) (x:Sur):fnd L x = -1\/(0<=fnd L x/\fnd L x < L.length):=by
 induction L with
 | nil=>exact .inl rfl
 | cons y L ih =>
  unfold fnd
  split
  ·right;simp
  ·split
   ·exact .inl rfl
   ·right
    rcases ih with h | h
    ·omega
    ·simp;omega
theorem qr6 {L:List Sur} {x:Sur}:fnd L x = -1 ↔ x ∉ L:=by
 induction L with
 | nil=>simp [fnd]
 | cons y L ih =>
  have hr:=qke L x
  unfold fnd
  by_cases h:y = x
  ·simp [h]
  ·rw [if_neg h]
   have hm:x ∉ y :: L ↔ x ∉ L:=by simp [show ¬ x = y from fun e=>h e.symm]
   rw [hm,<-ih]
   by_cases h':fnd L x < 0
   ·rw [if_pos h'];omega
   ·rw [if_neg h'];omega
theorem qze {L:List Sur} {x:Sur}:fnd L x < 0 ↔ x ∉ L:=by
 rw [<-qr6]
 have:=qke L x
 omega
theorem q1t {L:List Sur} {x:Sur} {k:Nat} (h1:L[k]? = some x) (h2:∀ j,j < k->L[j]? ≠ some x):fnd L x = k:=by
 induction L generalizing k with
 | nil=>simp at h1
 | cons y L ih =>
  unfold fnd
  cases k with
  | zero=>simp at h1;rw [if_pos h1];rfl
  | succ k =>
   have h0:¬ y = x:=fun e=>h2 0 (by omega) (by simp [e])
   have:=ih (k:=k) (by simpa using h1) (fun j hj=>by simpa using h2 (j + 1) (by omega))
   rw [if_neg h0,this,if_neg (by omega)]
   omega
theorem qu9 {L:List Sur} {x:Sur} (h:∀ j,j < L.length->L[j]? ≠ some x):fnd L x = -1:=by
 rw [qr6]
 intro hx
 obtain ⟨j,hj,e⟩:=List.mem_iff_getElem.1 hx
 exact h j hj (by rw [List.getElem?_eq_getElem hj,e])
abbrev LW:=List Sur × List (List UInt8)
def stp (c:UInt8) (s:Sur):Sur:=cn (qa2 c s)
def qli (k:Nat) (c:UInt8) (q:LW):LW :=
 if stp c (q.1.getD k ([],[])) ∈ q.1 then q else (q.1 ++ [stp c (q.1.getD k ([],[]))],q.2 ++ [q.2.getD k [] ++ [c]])
def two (k:Nat) (q:LW):LW:=qli k 83 (qli k 84 q)
def qlj:Nat->Nat->LW->Option LW
 | 0,_,_=>none
 | f + 1,k,q=>if k < q.1.length then (if 120 < (two k q).1.length then none else qlj f (k + 1) (two k q)) else some q
def orb (s:Sur):Option LW:=qlj 122 0 ([cn s],[[]])
structure Oi (n:Nat) (q:LW):Prop where
 len:q.2.length = q.1.length
 sf:∀ x ∈ q.1,Sf n x.1 x.2
 wl:∀ (k:Nat) (w:List UInt8),q.2[k]? = some w->w.length<=k
theorem qkf {n:Nat} {s:Sur} (h:Sf n s.1 s.2):Sf n (cn s).1 (cn s).2:=by
 unfold cn
 rw [h.lr]
 obtain ⟨ns,_,h2⟩:=h.qmd
 exact h2
theorem Oi.start {n:Nat} {s:Sur} (h:Sf n s.1 s.2):Oi n ([cn s],[[]]) :=
 ⟨rfl,fun x hx=>by simp at hx;subst hx;exact qkf h,fun k w hw=>by
  cases k with
  | zero=>simp at hw;subst hw;simp
  | succ k=>simp at hw⟩
theorem Oi.at {n:Nat} {q:LW} (h:Oi n q) {k:Nat} (hk:k < q.1.length):∃ x w,q.1[k]? = some x/\q.1.getD k ([],[]) = x/\Sf n x.1 x.2/\q.2[k]? = some w/\q.2.getD k [] = w/\w.length<=k:=by
 have hk2:k < q.2.length:=by rw [h.len];exact hk
 have e2:=List.getElem?_eq_getElem hk2
 refine ⟨q.1[k],q.2[k],List.getElem?_eq_getElem hk,?_,h.sf _ (List.getElem_mem hk),e2,?_,h.wl k _ e2⟩
 ·rw [List.getD_eq_getElem?_getD,List.getElem?_eq_getElem hk];rfl
 ·rw [List.getD_eq_getElem?_getD,e2];rfl
theorem qio (k:Nat) (c:UInt8) (q:LW):∃ r,(qli k c q).1 = q.1 ++ r/\r.length<=1:=by
 unfold qli
 split
 ·exact ⟨[],by simp⟩
 ·exact ⟨_,rfl,by simp⟩
theorem Oi.add {n:Nat} {q:LW} (h:Oi n q) {k:Nat} (hk:k < q.1.length) (c:UInt8):Oi n (qli k c q):=by
 obtain ⟨x,w,h1,h2,h3,h4,h5,h6⟩:=h.at hk
 unfold qli
 split
 ·exact h
 ·refine ⟨by simp [h.len],fun y hy=>?_,fun j u hu=>?_⟩
  ·rcases List.mem_append.1 hy with q' | q'
   ·exact h.sf y q'
   ·simp at q'
    subst q'
    rw [h1]
    exact qkf (qep h3 c)
  ·simp only at hu
   rw [List.getElem?_append] at hu
   split at hu
   ·exact h.wl j u hu
   ·rename_i hj
    have hl:=h.len
    rcases Nat.eq_zero_or_pos (j - q.2.length) with e | e
    ·rw [e] at hu
     simp at hu
     subst hu
     rw [show q.2[k]?.getD [] = w by rw [h4];rfl]
     simp;omega
    ·rw [List.getElem?_eq_none (by simp;omega)] at hu;cases hu
end Go.Proofs.Ytcdclihinmdgiaa.orb

namespace Go.Proofs.Ytcdclihinmdgiaa.fns
open Go.ChangeShapes Go.WideShapes Go.ChangeAt Go.RowKit
open mem ints arr pm permOk permOf inv
set_option linter.unusedVariables false
set_option maxRecDepth 100000
theorem qo7 {w w':World} (h:w = w'):Below w.heap.size w w':=h ▸ Below.refl _ _
theorem qrd (A:Option Addr) (n c:Nat) (xs:List Int) (hi:Nat) (w:World) (hx:Rd w hi A n (V xs)) (hn:n<=1048576) (hc:n<=c) :
  Calls sqp.prog 64 #[.slice A n c] w fun e w'=>e = .returned (.bool (okB xs))/\Below w.heap.size w w' :=
 (permOk.uh A n c xs hi w hx hn hc).mono fun _ _ ⟨he,hw⟩=>⟨he,qo7 hw⟩
def Gives (r:List Int) (w:World) (e:Ending) (w':World):Prop:=∃ v,e = .returned v/\w'.ownsRow w.heap.size 3 1 v r.length (V r)/\Below w.heap.size w w'
theorem qlv {w w1 w':World} {r:List Int} {e:Ending} (hb:Below w.heap.size w w1) (h:Gives r w1 e w'):Gives r w e w':=by
 obtain ⟨v,he,ho,hb'⟩:=h
 refine ⟨v,he,⟨ho.1,?_⟩,hb.trans (hb'.mono hb.size)⟩
 rcases ho.2 with h0 | ⟨g,cap,cur,h1,h2,h3⟩
 ·exact .inl h0
 ·exact .inr ⟨g,cap,cur,h1,Nat.le_trans hb.size h2,h3⟩
set_option maxHeartbeats 400000 in
theorem qhm (qs:List Int) (n:Nat) (w:World) (hl:qs.length = 24) (hn:n<=24) :
  Calls sqp.prog 37 #[.agg (V qs).toArray,.int .i64 n] w (Gives (qs.take n) w) :=
 quv qs n w hl hn
end Go.Proofs.Ytcdclihinmdgiaa.fns

namespace Go.Proofs.Ytcdclihinmdgiaa.fns
open Go.ChangeShapes Go.WideShapes Go.ChangeAt Go.RowKit
open mem ints arr pm permOk permOf inv
set_option linter.unusedVariables false
set_option maxRecDepth 100000
theorem Ok.nat {xs:List Int} (h:Ok xs) {k:Nat} (hk:k < xs.length):∃ z:Nat,z < xs.length/\xs[k]? = some (z:Int)/\xs.getD k 0 = (z:Int):=by
 have h1:=h.lo k hk;have h2:=h.hi k hk
 have e:xs[k]? = some (xs.getD k 0):=by rw [List.getD,List.getElem?_eq_getElem hk];rfl
 exact ⟨(xs.getD k 0).toNat,by omega,by rw [e];congr 1;omega,by omega⟩
def Made (n:Nat) (w wr:World) (l:List Int):Prop:=wr.ownsRow w.heap.size 3 1 (.slice (some ⟨w.heap.size,0,none⟩) n n) n (V l)/\Below w.heap.size w wr
theorem Made.cell {n:Nat} {w wr:World} {l:List Int} (h:Made n w wr l) {k:Nat} (hk:k < n):wr.cell? ⟨w.heap.size,k,none⟩ = some (.int .i64 (l.getD k 0)):=by
 have hl:l.length = n:=by simpa [V] using h.1.1
 rw [h.1.cellAt k (by omega)]
 exact bg (by omega)
theorem Made.qjo {n:Nat} {w wr:World} {l:List Int} (h:Made n w wr l) (k:Nat) (z:Int):Made n w (wr.setCell ⟨w.heap.size,k,none⟩ (.int .i64 z)) (l.set k z):=by
 have:=(h.1.stored k (.int .i64 z)).1
 rw [qj7] at this
 exact ⟨this,h.2.setCell (Nat.le_refl _) _⟩
set_option maxHeartbeats 1000000 in
theorem qhn (A:Option Addr) (n c:Nat) (xs:List Int) (hi:Nat) (w:World) (hx:Rd w hi A n (V xs)) (ok:Ok xs) :
  Calls sqp.prog 67 #[.slice A n c] w (Gives (x9 n xs n) w):=by
 obtain ⟨i0,hi0,hz0,hz1,hz2⟩:=info_parts qeo
 have lx:xs.length = n:=by simpa [V] using hx.1
 have hn:n<=24:=by have:=ok.len;omega
 have LX:=Lib.hid lx;clear lx
 have OK:=Lib.hid ok;clear ok
 have HX:=Lib.hid hx;clear hx
 have HZ2:=Lib.hid hz2;clear hz2
 go_enter sqp.func67,sqp.ntmps67
 go_wp2_with (at_make;refine wpList_make_full _ rfl _ _ 30 rfl w.heap.size 3 i0 _ 1 sqp.underlying30 hi0 hz0 hz1 _ _ _ _ n rfl rfl rfl rfl ?b2 ?b3 (Nat.le_refl _) ?_)
 case b2=>rw [HZ2.out];omega
 case b3=>unfold maxLen;omega
 intro w1 hown hg
 have hb1:Below w.heap.size w w1:=(Below.refl _ _).grown hg (Nat.le_refl _) (by simp)
 have HM:Hid (Made n w w1 (x9 n xs 0)):=Lib.hid ⟨by simpa [x9,V,toList_madeCells_one] using hown,hb1⟩
 clear hown hg hb1
 go_wp2
 go_loopw [11] (fun i wr=>∃ k:Nat,k<=n/\i = .int .i64 k/\Made n w wr (x9 n xs k)) (fun i _=>n - (intOf i).toNat)
 case atStart=>exact ⟨0,Nat.zero_le _,rfl,HM.out⟩
 case round =>
  obtain ⟨k,hk,rfl,hm⟩:=hrel
  have HR:=Lib.hid hm;clear hm HM
  by_cases hlt:k < n
  ·obtain ⟨g,off,u,rfl,hgl,hxu,hcx⟩:=HX.out.at_ hlt
   obtain ⟨s,hxs,rfl⟩:=qhb hxu
   obtain ⟨z,hz,hqz,hqd⟩:=Ok.nat OK.out (k:=k) (by rw [LX.out];exact hlt)
   rw [hqz] at hxs
   obtain rfl:=Option.some.inj hxs
   rw [LX.out] at hz
   have hgw:g < w.heap.size:=Nat.lt_of_lt_of_le hgl HX.out.2.1
   rw [<-HR.out.2.cell (p:=⟨g,off + k,none⟩) hgw] at hcx
   have hc:=HR.out.cell hz
   have hf:=HR.out.1.frozenAt z
   have HD:=Lib.hid hqd;clear hqd hqz hxs hxu
   go_wp2
   go_roundw
   case rel =>
    refine ⟨k + 1,by omega,by go_num,?_⟩
    have e:x9 n xs (k + 1) = (x9 n xs k).set z (k:Int):=by rw [x9,HD.out];rfl
    rw [e]
    exact HR.out.qjo z _
   case measure=>simp [intOf];omega
  ·obtain rfl:k = n:=by omega
   go_wp2
   go_ret
   exact ⟨_,rfl,by rw [uf];exact HR.out.1,HR.out.2⟩
end Go.Proofs.Ytcdclihinmdgiaa.fns

namespace Go.Proofs.Ytcdclihinmdgiaa.fns
open Go.ChangeShapes Go.WideShapes Go.ChangeAt Go.RowKit
open mem ints arr pm permOk permOf inv
set_option linter.unusedVariables false
set_option maxRecDepth 100000
structure gy (w wr:World) (v:Value) (l:List Int):Prop where
 own:wr.ownsRow w.heap.size 3 1 v l.length (V l)
 below:Below w.heap.size w wr
theorem gy.empty (w:World):gy w (w.alloc (.cells #[] 3)) (.slice (some ⟨w.heap.size,0,none⟩) 0 0) [] :=
 ⟨⟨rfl,.inr ⟨w.heap.size,0,#[],rfl,Nat.le_refl _,heap_alloc_last w _,Nat.le_refl _,by simp,rfl,rfl⟩⟩,(Below.refl _ _).alloc (Nat.le_refl _) _⟩
theorem gy.one (w:World) (z:Int):gy w (w.alloc (.cells #[.int .i64 z] 3)) (.slice (some ⟨w.heap.size,0,none⟩) 1 1) [z] :=
 ⟨⟨rfl,.inr ⟨w.heap.size,1,#[.int .i64 z],rfl,Nat.le_refl _,heap_alloc_last w _,Nat.le_refl _,by unfold maxLen;omega,rfl,rfl⟩⟩,(Below.refl _ _).alloc (Nat.le_refl _) _⟩
theorem gy.next {w wr w':World} {v v':Value} {l:List Int} {z:Int} {n:Nat} (h:gy w wr v l) (ho:w'.ownsRow w.heap.size 3 1 v' (n + 1) (V l ++ [.int .i64 z])) (hn:n = l.length) (hg:wr.grownBy w' v.ownBlock):gy w w' v' (l ++ [z]):=by
 subst hn
 refine ⟨?_,h.below.trans (own_below h.own hg (Nat.le_refl _) h.below.size)⟩
 have e:V (l ++ [z]) = V l ++ [.int .i64 z]:=by simp [V]
 rw [e]
 simpa using ho
theorem gy.gives {w wr:World} {v:Value} {l:List Int} (h:gy w wr v l):Gives l w (.returned v) wr:=⟨v,rfl,h.own,h.below⟩
theorem quk (xs ys:List Int) {k z:Nat} (h:xs[k]? = some (z:Int)):thn (xs.take (k + 1)) ys = thn (xs.take k) ys ++ [ys.getD z 0]:=by
 rw [List.take_add_one,h];simp [thn]
set_option maxHeartbeats 1000000 in
theorem qfz (A:Option Addr) (n c:Nat) (B:Option Addr) (m d:Nat) (xs ys:List Int) (h1 h2:Nat) (w:World) (hx:Rd w h1 A n (V xs)) (hy:Rd w h2 B m (V ys)) (ok:Ok xs) (hnm:n = m) :
  Calls sqp.prog 68 #[.slice A n c,.slice B m d] w (Gives (thn xs ys) w):=by
 subst hnm
 obtain ⟨i0,hi0,hz0,hz1,hz2⟩:=info_parts qeo
 have lx:xs.length = n:=by simpa [V] using hx.1
 have ly:ys.length = n:=by simpa [V] using hy.1
 have hn:n<=24:=by have:=ok.len;omega
 have LX:=Lib.hid lx;have LY:=Lib.hid ly;clear lx ly
 have OK:=Lib.hid ok;clear ok
 have HX:=Lib.hid hx;have HY:=Lib.hid hy;clear hx hy
 go_enter sqp.func68,sqp.ntmps68
 go_wp2
 go_loopw [5,11] (fun v i wr=>∃ k:Nat,k<=n/\i = .int .i64 k/\gy w wr v (thn (xs.take k) ys)) (fun _ i _=>n - (intOf i).toNat)
 case atStart=>exact ⟨0,Nat.zero_le _,rfl,gy.empty w⟩
 case round =>
  obtain ⟨k,hk,rfl,hm⟩:=hrel
  have HR:=Lib.hid hm;clear hm
  by_cases hlt:k < n
  ·obtain ⟨g,off,u,rfl,hgl,hxu,hcx⟩:=HX.out.at_ hlt
   obtain ⟨s,hxs,rfl⟩:=qhb hxu
   obtain ⟨z,hz,hqz,hqd⟩:=Ok.nat OK.out (k:=k) (by rw [LX.out];exact hlt)
   rw [hqz] at hxs
   obtain rfl:=Option.some.inj hxs
   rw [LX.out] at hz
   obtain ⟨g',off',u',rfl,hgl',hyu,hcy⟩:=HY.out.at_ hz
   obtain ⟨t,hyt,rfl⟩:=qhb hyu
   have hgw:g < w.heap.size:=Nat.lt_of_lt_of_le hgl HX.out.2.1
   have hgw':g' < w.heap.size:=Nat.lt_of_lt_of_le hgl' HY.out.2.1
   rw [<-HR.out.below.cell (p:=⟨g,off + k,none⟩) hgw] at hcx
   rw [<-HR.out.below.cell (p:=⟨g',off' + z,none⟩) hgw'] at hcy
   have HQ:=Lib.hid hqz;have HT:=Lib.hid (permOk.qes hyt)
   have hsz:=HR.out.below.size
   have HLN:Hid ((thn (xs.take k) ys).length = k):=Lib.hid (by have:=LX.out;simp [thn];omega)
   clear hqz hqd hxs hxu hyu hyt
   go_wp2_with (at_builtin;refine yh wr _ _ rfl _ _ 30 rfl w.heap.size 3 i0 _ 8 sqp.underlying30 hi0 hz0 hz1 hz2 rfl _ _ _ rfl HR.out.own rfl rfl ?c4 (by decide) hsz ?_)
   case c4=>rw [HLN.out];omega
   intro v' w' ho hg
   have HN:Hid (gy w w' v' (thn (xs.take (k + 1)) ys)):=Lib.hid (by
    rw [quk xs ys HQ.out,HT.out]
    exact HR.out.next ho rfl hg)
   clear ho hg HR hcx hcy
   go_wp2
   go_roundw
   case rel=>exact ⟨k + 1,by omega,by go_num,HN.out⟩
   case measure=>simp [intOf];omega
  ·obtain rfl:k = n:=by omega
   go_wp2
   go_ret
   have:=HR.out
   rw [List.take_of_length_le (by rw [LX.out];exact Nat.le_refl _)] at this
   exact this.gives
end Go.Proofs.Ytcdclihinmdgiaa.fns

namespace Go.Proofs.Ytcdclihinmdgiaa.fns
open Go.ChangeShapes Go.WideShapes Go.ChangeAt Go.RowKit
open mem ints arr pm permOk permOf inv
set_option linter.unusedVariables false
set_option maxRecDepth 100000
end Go.Proofs.Ytcdclihinmdgiaa.fns

namespace Go.Proofs.Ytcdclihinmdgiaa.mem
open Go.ChangeShapes Go.WideShapes Go.ChangeAt Go.RowKit
set_option linter.unusedVariables false
set_option maxRecDepth 100000
theorem qrx {P:Program} (w:World) (base:Nat) (t ty e:TypeId) (i:TypeInfo) (z:Value) (bytes:Nat) (ht:P.underlying t = some (.slice e)) (hi:P.info? e = some i) (hz:i.zero = some z)
  (hsize:i.size = 1) (hby:i.bytes = bytes) (hzs:z.cells.size = 1) (v:Value) (n:Nat) (xs:List Value) (hown:w.ownsRow base e 1 v n xs)
  (a:Addr) (u:Value) (hu:w.cell? a = some u) (ha:a.add 0 = a) (h1:u.oneCell' = true) (hbytes:(n + 1) * bytes<=140737488355328) (h63:n + 1<=maxLen) {v':Value} {w':World}
  (hr:(Builtin.append_ #[t,t] ty #[v,.slice (some a) 1 1]).run P w = .ok v' w'):v'.ownBlock = v.ownBlock\/∃ k,v'.ownBlock = some k/\w.heap.size<=k:=by
 have hc:∀ j q,[u][j]? = some q->w.cell? (a.add j) = some q:=by
  intro j q hj
  match j,hj with
  | 0,hj=>simp at hj;subst hj;rw [ha];exact hu
 have ho:∀ q ∈ [u],q.oneCell' = true:=by intro q hq;simp at hq;subst hq;exact h1
 have same:∀ {v2:Value} {w2:World},(Builtin.append_ #[t,t] ty #[v,.slice (some a) 1 1]).run P w = .ok v2 w2->v' = v2:=by
  intro v2 w2 h2
  rw [hr] at h2
  injection h2
 rcases hown.2 with ⟨rfl,rfl⟩ | ⟨g,cap,cur,rfl,_⟩
 ·have hn:w.ownsRow w.heap.size e 1 (.slice none 0 0) 0 xs:=⟨hown.1,.inl ⟨rfl,rfl⟩⟩
  obtain ⟨v2,w2,h2,own2,_,ne⟩:=run_append_own (P:=P) w w.heap.size t ty e i z 1 bytes ht hi hz hsize hby hzs (by decide) _ 0 xs hn a 1 1 [u] rfl hc ho h63 hbytes (Nat.le_refl _)
  rw [same h2]
  cases hb:v2.ownBlock with
  | none=>exact .inl rfl
  | some k=>exact .inr ⟨k,rfl,(own2.lt k hb).1⟩
 ·by_cases room:n + 1<=cap
  ·obtain ⟨w2,h2,_⟩:=run_append_fits (P:=P) w base t ty e i 1 ht hi hsize g n cap xs hown a 1 1 [u] rfl hc ho room
   rw [same h2]
   exact .inl rfl
  ·have h2:=run_append_grow (P:=P) w t ty e i z ht hi hz ⟨g,0,none⟩ n cap xs (by rw [hsize];exact hown.1) (hown.cells rfl) a 1 1 [u] (by rw [hsize];rfl) hc (by omega) (by unfold maxLen at h63;omega) (by rw [hby];exact growslice_fits (by omega) hbytes)
   rw [same h2]
   exact .inr ⟨_,rfl,Nat.le_refl _⟩
theorem qa5 {P:Program} {ops:Array Oper} {rest:List Oper} {o:Oper} {a:Act} {Q:Exit->Act->World->Prop} (W:World) (u:Value) (ty:TypeId) (hgd:o.guard = none) (s x:Operand) (t:TypeId)
  (ho:o.op = .call { callee:=.builtin .append,args:=#[s,x],argTypes:=#[t,t] })
  (base:Nat) (e:TypeId) (i:TypeInfo) (z:Value) (bytes size:Nat) (ht:P.underlying t = some (.slice e)) (hi:P.info? e = some i) (hz:i.zero = some z)
  (hsize:i.size = size) (hone:size = 1) (hby:i.bytes = bytes) (hzs:z.cells.size = 1)
  (v:Value) (n:Nat) (xs:List Value) (hs:a.eval s = v) (hown:W.ownsRow base e 1 v n xs)
  (hx:a.eval x = .slice (some ⟨W.heap.size,0,none⟩) 1 1) (h1:u.oneCell' = true)
  (hbytes:(n + 1) * bytes<=140737488355328) (hb0:0 < bytes) (hbase:base<=W.heap.size)
  (h:∀ v' w',w'.ownsRow base e 1 v' (n + 1) (xs ++ [u])->W.grownBy w' v.ownBlock->(v'.ownBlock = v.ownBlock\/∃ k,v'.ownBlock = some k/\W.heap.size + 1<=k)->wpList P ops Q rest (a.put o.dst v') w'):wpList P ops Q (o :: rest) a (W.alloc (.cells #[u] ty)):=by
 subst hone
 have h63:n + 1<=maxLen:=by
  have:(n + 1) * 1<=(n + 1) * bytes:=Nat.mul_le_mul_left _ hb0
  unfold maxLen;omega
 have hcell:(W.alloc (.cells #[u] ty)).cell? ⟨W.heap.size,0,none⟩ = some u:=by simp
 have hc:∀ j q,[u][j]? = some q->(W.alloc (.cells #[u] ty)).cell? ((⟨W.heap.size,0,none⟩:Addr).add j) = some q:=by
  intro j q hj
  match j,hj with
  | 0,hj=>simp at hj;subst hj;simp [Addr.add]
 have hu:∀ q ∈ [u],q.oneCell' = true:=by intro q hq;simp at hq;subst hq;exact h1
 obtain ⟨v',w',hr,own',grown',_⟩:=run_append_own (P:=P) (W.alloc (.cells #[u] ty)) base t o.type e i z 1 bytes ht hi hz hsize hby hzs (by decide) v n xs (hown.alloc _) ⟨W.heap.size,0,none⟩ 1 1 [u] rfl hc hu h63 hbytes (by simp;omega)
 have hwh:=qrx (P:=P) (W.alloc (.cells #[u] ty)) base t o.type e i z bytes ht hi hz hsize hby hzs v n xs (hown.alloc _) ⟨W.heap.size,0,none⟩ u hcell (by simp [Addr.add]) h1 hbytes h63 hr
 have hgo:=h v' w' own' (qf7 (World.grownBy_alloc W _ _) grown') (by simpa using hwh)
 refine wpList_plain hgd fun K hK=>?_
 simp [Oper.wp,execOp,ho,resolve,invoke,builtin,hs,hx,hr]
 exact hK _ _ hgo
end Go.Proofs.Ytcdclihinmdgiaa.mem
