import Derived.Test.YtgcnemkhppkkcaaV06
import Derived.Test.YtgcnemkhppkkcaaV09
import Derived.Test.YtgcnemkhppkkcaaV08
import Derived.Test.YtgcnemkhppkkcaaV04
import Derived.Test.YtgcnemkhppkkcaaV07
namespace Go.Proofs.Ytgcnemkhppkkcaa.cy
set_option linter.unusedVariables false
set_option maxRecDepth 100000
def at_ (ab:List Int) (i:Nat):Int:=ab.getD i (-1)
structure Inj (N:Nat) (ab:List Int):Prop where
 len:ab.length = N
 rng:∀ i,i < N->at_ ab i < N
 low:∀ i,i < N->-1<=at_ ab i
 inj:∀ i j x:Nat,i < N->j < N->at_ ab i = x->at_ ab j = x->i = j
def Closed (N:Nat) (ab:List Int) (T:Nat->Prop):Prop:=∀ i x:Nat,i < N->at_ ab i = x->(T i ↔ T x)
def on (M:List Bool) (i:Nat):Prop:=M[i]? = some true
theorem on_lt {M:List Bool} {i:Nat} (h:on M i):i < M.length:=(List.getElem?_eq_some_iff.1 h).1
theorem not_on {M:List Bool} {i:Nat} (hi:i < M.length) (h:¬ on M i):M[i]? = some false:=by
 have e:=List.getElem?_eq_getElem hi
 cases hb:M[i] with
 | true=>rw [hb] at e;exact absurd e h
 | false=>rw [hb] at e;exact e
theorem on_set {M:List Bool} {k i:Nat} (hk:k < M.length):on (M.set k true) i ↔ i = k\/on M i:=by
 unfold on
 by_cases e:i = k
 ·subst e;simp [hk]
 ·rw [List.getElem?_set_ne (Ne.symm e)];simp [e]
def cnt (M:List Bool):Nat:=M.count true
theorem cnt_le (M:List Bool):cnt M<=M.length:=List.count_le_length
theorem cnt_set {M:List Bool} {k:Nat} (h:M[k]? = some false):cnt (M.set k true) = cnt M + 1:=by
 induction M generalizing k with
 | nil=>simp at h
 | cons b t ih =>
  cases k with
  | zero =>
   have:b = false:=by simpa using h
   subst this
   simp [cnt]
  | succ k =>
   have:=ih (k:=k) (by simpa using h)
   unfold cnt at this ⊢
   rw [List.set_cons_succ,List.count_cons,List.count_cons,this]
   omega
open Classical in
noncomputable def clos (N:Nat) (ab:List Int) (M:List Bool) (r:Nat):List Bool :=
 (List.range N).map fun i=>decide (∀ T:Nat->Prop,Closed N ab T->(∀ j,on M j->T j)->T r->T i)
theorem clos_len (N:Nat) (ab:List Int) (M:List Bool) (r:Nat):(clos N ab M r).length = N:=by simp [clos]
theorem clos_on {N:Nat} {ab:List Int} {M:List Bool} {r i:Nat} (hi:i < N):on (clos N ab M r) i ↔ ∀ T:Nat->Prop,Closed N ab T->(∀ j,on M j->T j)->T r->T i:=by
 show (clos N ab M r)[i]? = some true ↔ _
 unfold clos
 simp [hi]
theorem clos_closed {N:Nat} {ab:List Int} (h:Inj N ab) (M:List Bool) (r:Nat):Closed N ab (on (clos N ab M r)):=by
 intro i x hi hx
 have hxN:x < N:=by have:=h.rng i hi;omega
 rw [clos_on hi,clos_on hxN]
 exact ⟨fun q T a b c=>(a i x hi hx).1 (q T a b c),fun q T a b c=>(a i x hi hx).2 (q T a b c)⟩
theorem clos_sub {N:Nat} {ab:List Int} {M:List Bool} {r:Nat} (hl:M.length = N) {j:Nat} (hj:on M j):on (clos N ab M r) j :=
 (clos_on (by have:=on_lt hj;omega)).2 fun T a b c=>b j hj
theorem clos_self {N:Nat} {ab:List Int} {M:List Bool} {r:Nat} (hr:r < N):on (clos N ab M r) r:=(clos_on hr).2 fun T a b c=>c
theorem clos_eq {N:Nat} {ab:List Int} {M M':List Bool} {r:Nat} (hl:M'.length = N) (hc:Closed N ab (on M')) (hs:∀ j,on M j->on M' j) (hr:on M' r)
  (hm:∀ T:Nat->Prop,Closed N ab T->(∀ j,on M j->T j)->T r->∀ i,on M' i->T i):M' = clos N ab M r:=by
 refine List.ext_getElem? fun i=>?_
 by_cases hi:i < N
 ·have e1:=List.getElem?_eq_getElem (l:=M') (i:=i) (by omega)
  have e2:=List.getElem?_eq_getElem (l:=clos N ab M r) (i:=i) (by rw [clos_len];exact hi)
  have e3:on M' i ↔ on (clos N ab M r) i:=by
   rw [clos_on hi]
   exact ⟨fun q T a b c=>hm T a b c i q,fun q=>q (on M') hc hs hr⟩
  unfold on at e3
  rw [e1,e2] at e3
  rw [e1,e2]
  congr 1
  have e4:M'[i] = true ↔ (clos N ab M r)[i]'(by rw [clos_len];exact hi) = true:=by simpa using e3
  exact Bool.eq_iff_iff.2 e4
 ·rw [List.getElem?_eq_none (by omega),List.getElem?_eq_none (by rw [clos_len];omega)]
structure Up (N:Nat) (ab:List Int) (S:List Bool) (r:Nat) (M:List Bool) (cur:Int):Prop where
 len:M.length = N
 sub:∀ j,on S j->on M j
 min:∀ T:Nat->Prop,Closed N ab T->(∀ j,on S j->T j)->T r->(∀ i,on M i->T i)/\∀ c:Nat,cur = c->T c
 up:∀ i,on M i->∀ x:Nat,at_ ab i = x->on M x\/cur = x
 pre:∀ x,on M x->on S x\/x = r\/∃ i,on M i/\at_ ab i = x
 cpre:∀ c:Nat,cur = c->c = r\/∃ i,on M i/\at_ ab i = c
 hi:cur < N
 lo:-1<=cur
 row:on M r\/cur = r
theorem Up.start {N:Nat} {ab:List Int} {S:List Bool} {r:Nat} (hl:S.length = N) (hr:r < N) (hS:Closed N ab (on S)):Up N ab S r S r :=
 ⟨hl,fun j h=>h,fun T a b c=>⟨b,fun c' e=>by have:c' = r:=by omega
                                             subst this;exact c⟩,fun i hi x hx=>.inl ((hS i x (by have:=on_lt hi;omega) hx).1 hi),fun x h=>.inl h,fun c e=>.inl (by omega),by omega,by omega,.inr rfl⟩
theorem Up.step {N:Nat} {ab:List Int} {S M:List Bool} {r c:Nat} (h:Up N ab S r M (c:Int)) (hi:Inj N ab) (hc:M[c]? = some false):Up N ab S r (M.set c true) (at_ ab c):=by
 have hcl:c < M.length:=(List.getElem?_eq_some_iff.1 hc).1
 have hcN:c < N:=by have:=h.len;omega
 refine ⟨by rw [List.length_set];exact h.len,fun j hj=>(on_set hcl).2 (.inr (h.sub j hj)),fun T a b d=>?_,fun i hi' x hx=>?_,fun x hx=>?_,fun c' e=>?_,hi.rng c hcN,hi.low c hcN,.inl ?_⟩
 ·obtain ⟨q1,q2⟩:=h.min T a b d
  have tc:=q2 c rfl
  refine ⟨fun i hi'=>?_,fun c' e=>(a c c' hcN e).1 tc⟩
  rcases (on_set hcl).1 hi' with rfl | q
  ·exact tc
  ·exact q1 i q
 ·rcases (on_set hcl).1 hi' with rfl | q
  ·exact .inr hx
  ·rcases h.up i q x hx with z | z
   ·exact .inl ((on_set hcl).2 (.inr z))
   ·exact .inl ((on_set hcl).2 (.inl (by omega)))
 ·rcases (on_set hcl).1 hx with rfl | q
  ·rcases h.cpre x rfl with z | ⟨i,z1,z2⟩
   ·exact .inr (.inl z)
   ·exact .inr (.inr ⟨i,(on_set hcl).2 (.inr z1),z2⟩)
  ·rcases h.pre x q with z | z | ⟨i,z1,z2⟩
   ·exact .inl z
   ·exact .inr (.inl z)
   ·exact .inr (.inr ⟨i,(on_set hcl).2 (.inr z1),z2⟩)
 ·exact .inr ⟨c,(on_set hcl).2 (.inl rfl),e⟩
 ·rcases h.row with z | z
  ·exact (on_set hcl).2 (.inr z)
  ·exact (on_set hcl).2 (.inl (by omega))
structure Ud (N:Nat) (ab:List Int) (S:List Bool) (r:Nat) (M:List Bool):Prop where
 len:M.length = N
 sub:∀ j,on S j->on M j
 min:∀ T:Nat->Prop,Closed N ab T->(∀ j,on S j->T j)->T r->∀ i,on M i->T i
 up:∀ i,on M i->∀ x:Nat,at_ ab i = x->on M x
 pre:∀ x,on M x->on S x\/x = r\/∃ i,on M i/\at_ ab i = x
 row:on M r
theorem Up.done {N:Nat} {ab:List Int} {S M:List Bool} {r:Nat} {cur:Int} (h:Up N ab S r M cur) (hd:cur < 0\/∃ c:Nat,cur = c/\on M c):Ud N ab S r M:=by
 refine ⟨h.len,h.sub,fun T a b c=>(h.min T a b c).1,fun i hi x hx=>?_,h.pre,?_⟩
 ·rcases h.up i hi x hx with z | z
  ·exact z
  ·rcases hd with q | ⟨c,q1,q2⟩
   ·omega
   ·have:c = x:=by omega
    subst this;exact q2
 ·rcases h.row with z | z
  ·exact z
  ·rcases hd with q | ⟨c,q1,q2⟩
   ·omega
   ·have:c = r:=by omega
    subst this;exact q2
structure Dw (N:Nat) (ab:List Int) (S:List Bool) (r:Nat) (M:List Bool) (cur:Int):Prop where
 len:M.length = N
 sub:∀ j,on S j->on M j
 min:∀ T:Nat->Prop,Closed N ab T->(∀ j,on S j->T j)->T r->(∀ i,on M i->T i)/\∀ c:Nat,cur = c->T c
 up:∀ i,on M i->∀ x:Nat,at_ ab i = x->on M x
 dn:∀ x,on M x->∀ k,k < N->at_ ab k = x->on M k\/cur = k
 cab:∀ c:Nat,cur = c->∃ x:Nat,at_ ab c = x/\on M x
 hi:cur < N
 lo:-1<=cur
 row:on M r
structure Back (N:Nat) (ab bl:List Int):Prop where
 len:bl.length = N
 rng:∀ i,i < N->at_ bl i < N
 low:∀ i,i < N->-1<=at_ bl i
 iff:∀ x k:Nat,x < N->k < N->(at_ bl x = k ↔ at_ ab k = x)
theorem Ud.dw {N:Nat} {ab bl:List Int} {S M:List Bool} {r:Nat} (h:Ud N ab S r M) (hi:Inj N ab) (hb:Back N ab bl) (hS:Closed N ab (on S)) (hr:r < N):Dw N ab S r M (at_ bl r):=by
 refine ⟨h.len,h.sub,fun T a b c=>⟨h.min T a b c,fun k e=>?_⟩,h.up,fun x hx k hk e=>?_,fun c e=>?_,hb.rng r hr,hb.low r hr,h.row⟩
 ·have hk:k < N:=by have:=hb.rng r hr;omega
  exact (a k r hk ((hb.iff r k hr hk).1 e)).2 c
 ·rcases h.pre x hx with z | z | ⟨i,z1,z2⟩
  ·exact .inl (h.sub k ((hS k x hk e).2 z))
  ·subst z;exact .inr ((hb.iff x k hr hk).2 e)
  ·have:i = k:=hi.inj i k x (by have:=on_lt z1;have:=h.len;omega) hk z2 e
   subst this;exact .inl z1
 ·have hc:c < N:=by have:=hb.rng r hr;omega
  exact ⟨r,(hb.iff r c hr hc).1 e,h.row⟩
theorem Dw.step {N:Nat} {ab bl:List Int} {S M:List Bool} {r c:Nat} (h:Dw N ab S r M (c:Int)) (hb:Back N ab bl) (hc:M[c]? = some false):Dw N ab S r (M.set c true) (at_ bl c):=by
 have hcl:c < M.length:=(List.getElem?_eq_some_iff.1 hc).1
 have hcN:c < N:=by have:=h.len;omega
 refine ⟨by rw [List.length_set];exact h.len,fun j hj=>(on_set hcl).2 (.inr (h.sub j hj)),fun T a b d=>?_,fun i hi' x hx=>?_,fun x hx k hk e=>?_,fun c' e=>?_,hb.rng c hcN,hb.low c hcN,(on_set hcl).2 (.inr h.row)⟩
 ·obtain ⟨q1,q2⟩:=h.min T a b d
  have tc:=q2 c rfl
  refine ⟨fun i hi'=>?_,fun k e=>?_⟩
  ·rcases (on_set hcl).1 hi' with rfl | q
   ·exact tc
   ·exact q1 i q
  ·have hk:k < N:=by have:=hb.rng c hcN;omega
   exact (a k c hk ((hb.iff c k hcN hk).1 e)).2 tc
 ·rcases (on_set hcl).1 hi' with rfl | q
  ·obtain ⟨y,y1,y2⟩:=h.cab i rfl
   have:y = x:=by omega
   subst this;exact (on_set hcl).2 (.inr y2)
  ·exact (on_set hcl).2 (.inr (h.up i q x hx))
 ·rcases (on_set hcl).1 hx with rfl | q
  ·exact .inr ((hb.iff x k hcN hk).2 e)
  ·rcases h.dn x q k hk e with z | z
   ·exact .inl ((on_set hcl).2 (.inr z))
   ·exact .inl ((on_set hcl).2 (.inl (by omega)))
 ·have hc':c' < N:=by have:=hb.rng c hcN;omega
  exact ⟨c,(hb.iff c c' hcN hc').1 e,(on_set hcl).2 (.inl rfl)⟩
theorem Dw.done {N:Nat} {ab:List Int} {S M:List Bool} {r:Nat} {cur:Int} (h:Dw N ab S r M cur) (hd:cur < 0\/∃ c:Nat,cur = c/\on M c):M = clos N ab S r:=by
 refine clos_eq h.len (fun i x hi hx=>⟨fun q=>h.up i q x hx,fun q=>?_⟩) h.sub h.row fun T a b c=>(h.min T a b c).1
 rcases h.dn x q i hi hx with z | z
 ·exact z
 ·rcases hd with w | ⟨c,w1,w2⟩
  ·omega
  ·have:c = i:=by omega
   subst this;exact w2
noncomputable def cyS (ab:List Int) (rr:List (List Int)):Nat->List Bool × List (Int × Int)
 | 0=>(List.replicate rr.length false,[])
 | i + 1=>if (cyS ab rr i).1[i]? = some true then cyS ab rr i else
   (clos rr.length ab (cyS ab rr i).1 i,(cyS ab rr i).2 ++ [(((rr.getD i []).length:Int),((cnt (clos rr.length ab (cyS ab rr i).1 i) - cnt (cyS ab rr i).1:Nat):Int))])
noncomputable def cyL (ab:List Int) (rr:List (List Int)):List (Int × Int):=(cyS ab rr rr.length).2
theorem cyS_yes {ab:List Int} {rr:List (List Int)} {i:Nat} (h:(cyS ab rr i).1[i]? = some true):cyS ab rr (i + 1) = cyS ab rr i:=by rw [cyS,if_pos h]
theorem cyS_no {ab:List Int} {rr:List (List Int)} {i:Nat} (h:(cyS ab rr i).1[i]? = some false):cyS ab rr (i + 1) = (clos rr.length ab (cyS ab rr i).1 i,(cyS ab rr i).2 ++ [(((rr.getD i []).length:Int),((cnt (clos rr.length ab (cyS ab rr i).1 i) - cnt (cyS ab rr i).1:Nat):Int))]):=by
 rw [cyS,if_neg (by rw [h];simp)]
theorem cyS_ok {ab:List Int} {rr:List (List Int)} (h:Inj rr.length ab):∀ i,i<=rr.length->(cyS ab rr i).1.length = rr.length/\Closed rr.length ab (on (cyS ab rr i).1)/\(cyS ab rr i).2.length<=i
 | 0,_=>by
  refine ⟨by simp [cyS],fun i x hi hx=>?_,by simp [cyS]⟩
  have hn:∀ j,¬ on (cyS ab rr 0).1 j:=fun j q=>by
   unfold on at q
   simp only [cyS,List.getElem?_replicate] at q
   split at q <;> simp at q
  exact ⟨fun q=>absurd q (hn _),fun q=>absurd q (hn _)⟩
 | i + 1,hi=>by
  obtain ⟨a,b,c⟩:=cyS_ok h i (by omega)
  by_cases q:(cyS ab rr i).1[i]? = some true
  ·rw [cyS_yes q];exact ⟨a,b,by omega⟩
  ·rw [cyS_no (not_on (by omega) q)]
   exact ⟨clos_len _ _ _ _,clos_closed h _ _,by simp;omega⟩
end Go.Proofs.Ytgcnemkhppkkcaa.cy

namespace Go.Proofs.Ytgcnemkhppkkcaa.cy
open pm arr inv permOf
set_option linter.unusedVariables false
set_option maxRecDepth 100000
structure Rws (n:Nat) (ps:List Int) (rr:List (List Int)):Prop where
 bij:Bij n ps
 inn:In n rr.flatten
 all:∀ y:Nat,y < n->(y:Int) ∈ rr.flatten
 row:∀ (i:Nat) (xs:List Int),rr[i]? = some xs->∃ f:Nat,f < n/\xs = cyc ps n (f:Int)
 len:rr.length<=n
theorem Rws.of {n:Nat} {ps:List Int} (hb:Bij n ps):Rws n ps (cso ps n n) :=
 have h:=cso_cs hb n (Nat.le_refl _)
 ⟨hb,h.inn,h.all,fun i xs hx=>cso_cyc n (Nat.le_refl _) xs (List.mem_of_getElem? hx),h.len⟩
theorem flat_same:∀ {rr:List (List Int)} {i j:Nat} {xs ys:List Int} {y:Int},rr.flatten.Nodup->rr[i]? = some xs->rr[j]? = some ys->y ∈ xs->y ∈ ys->i = j
 | [],i,j,xs,ys,y,h,hi,hj,h1,h2=>by simp at hi
 | z :: t,0,0,xs,ys,y,h,hi,hj,h1,h2=>rfl
 | z :: t,0,j + 1,xs,ys,y,h,hi,hj,h1,h2=>by
  rw [List.flatten_cons,List.nodup_append] at h
  obtain rfl:z = xs:=by simpa using hi
  exact absurd rfl (h.2.2 y h1 y (List.mem_flatten.2 ⟨ys,List.mem_of_getElem? (by simpa using hj),h2⟩))
 | z :: t,i + 1,0,xs,ys,y,h,hi,hj,h1,h2=>by
  rw [List.flatten_cons,List.nodup_append] at h
  obtain rfl:z = ys:=by simpa using hj
  exact absurd rfl (h.2.2 y h2 y (List.mem_flatten.2 ⟨xs,List.mem_of_getElem? (by simpa using hi),h1⟩))
 | z :: t,i + 1,j + 1,xs,ys,y,h,hi,hj,h1,h2=>by
  rw [List.flatten_cons,List.nodup_append] at h
  rw [flat_same (i:=i) (j:=j) h.2.1 (by simpa using hi) (by simpa using hj) h1 h2]
section
variable {n:Nat} {ps:List Int} {rr:List (List Int)} (h:Rws n ps rr)
include h
theorem Rws.same {i j:Nat} {xs ys:List Int} {y:Int} (hi:rr[i]? = some xs) (hj:rr[j]? = some ys) (h1:y ∈ xs) (h2:y ∈ ys):i = j:=flat_same h.inn.nd hi hj h1 h2
theorem Rws.has {y:Int} (y0:0<=y) (y1:y < n):∃ (i:Nat) (xs:List Int),rr[i]? = some xs/\y ∈ xs:=by
 have:=h.all y.toNat (by omega)
 rw [Int.toNat_of_nonneg y0] at this
 obtain ⟨xs,h1,h2⟩:=List.mem_flatten.1 this
 obtain ⟨i,hi,e⟩:=List.getElem_of_mem h1
 exact ⟨i,xs,by rw [List.getElem?_eq_getElem hi,e],h2⟩
theorem Rws.rng {i:Nat} {xs:List Int} {y:Int} (hx:rr[i]? = some xs) (hy:y ∈ xs):0<=y/\y < n:=by
 have:y ∈ rr.flatten:=List.mem_flatten.2 ⟨xs,List.mem_of_getElem? hx,hy⟩
 exact ⟨h.inn.lo y this,h.inn.hi y this⟩
theorem Rws.way {i:Nat} {xs:List Int} (hx:rr[i]? = some xs):∃ f:Nat,f < n/\xs = cyc ps n (f:Int)/\pm.Way n ps f f xs:=by
 obtain ⟨f,h1,h2⟩:=h.row i xs hx
 exact ⟨f,h1,h2,by rw [h2];exact cyc_way h.bij (by omega) (by omega)⟩
theorem Rws.head {i:Nat} {xs:List Int} (hx:rr[i]? = some xs):0 < xs.length/\xs.getD 0 0 ∈ xs:=by
 obtain ⟨f,h1,h2,w⟩:=h.way hx
 exact ⟨w.pos,getD_mem w.pos⟩
theorem Rws.reach {i:Nat} {xs:List Int} {y z:Int} (hx:rr[i]? = some xs) (hy:y ∈ xs) (hz:z ∈ xs):∃ m,it ps y m = z:=by
 obtain ⟨f,h1,h2,w⟩:=h.way hx
 obtain ⟨a,a1,a2⟩:=mem_getD hy
 obtain ⟨b,b1,b2⟩:=mem_getD hz
 rw [way_it w a a1] at a2
 rw [way_it w b b1] at b2
 refine ⟨xs.length - a + b,?_⟩
 rw [<-a2,it_add,show a + (xs.length - a + b) = xs.length + b by omega,<-it_add,<-way_last w,b2]
theorem Rws.next {i:Nat} {xs:List Int} {y:Int} (hx:rr[i]? = some xs) (hy:y ∈ xs):ps.getD y.toNat 0 ∈ xs:=by
 obtain ⟨f,h1,h2,w⟩:=h.way hx
 obtain ⟨a,a1,a2⟩:=mem_getD hy
 by_cases q:a + 1 < xs.length
 ·have:=w.step a q
  rw [a2] at this
  rw [<-this]
  exact getD_mem q
 ·have e:a = xs.length - 1:=by omega
  have:=w.last
  rw [<-e,a2] at this
  rw [<-this,<-w.head]
  exact getD_mem w.pos
theorem Rws.it_in {i:Nat} {xs:List Int} {y:Int} (hx:rr[i]? = some xs) (hy:y ∈ xs):∀ m,it ps y m ∈ xs
 | 0=>hy
 | m + 1=>h.next hx (Rws.it_in hx hy m)
end
def rix:List (List Int)->Int->Int
 | [],_=>-1
 | xs :: t,y=>if y ∈ xs then 0 else if rix t y < 0 then -1 else rix t y + 1
theorem rix_low:∀ (rr:List (List Int)) (y:Int),-1<=rix rr y/\rix rr y < rr.length
 | [],y=>by simp [rix]
 | xs :: t,y=>by
  have:=rix_low t y
  rw [rix]
  simp only [List.length_cons]
  split
  ·omega
  ·split <;> omega
theorem rix_at:∀ {rr:List (List Int)} {y:Int} {k:Nat} {xs:List Int},rr[k]? = some xs->y ∈ xs->(∀ j:Nat,j < k->∀ zs:List Int,rr[j]? = some zs->¬ y ∈ zs)->rix rr y = k
 | [],y,k,xs,h,_,_=>by simp at h
 | z :: t,y,0,xs,h,hy,_=>by
  obtain rfl:z = xs:=by simpa using h
  rw [rix,if_pos hy];rfl
 | z :: t,y,k + 1,xs,h,hy,hn=>by
  have:=rix_at (rr:=t) (y:=y) (k:=k) (by simpa using h) hy (fun j hj zs hz=>hn (j + 1) (by omega) zs (by simpa using hz))
  rw [rix,if_neg (hn 0 (by omega) z rfl),this,if_neg (by omega)]
  omega
theorem rix_none:∀ {rr:List (List Int)} {y:Int},(∀ (j:Nat) (zs:List Int),rr[j]? = some zs->¬ y ∈ zs)->rix rr y = -1
 | [],y,_=>rfl
 | z :: t,y,hn=>by
  have:=rix_none (rr:=t) (y:=y) (fun j zs hz=>hn (j + 1) zs (by simpa using hz))
  rw [rix,if_neg (hn 0 z rfl),this,if_pos (by omega)]
theorem rix_mem:∀ {rr:List (List Int)} {y:Int} {k:Nat},rix rr y = k->∃ xs,rr[k]? = some xs/\y ∈ xs
 | [],y,k,h=>by simp [rix] at h
 | z :: t,y,k,h=>by
  rw [rix] at h
  split at h
  ·rename_i q
   have:k = 0:=by omega
   subst this
   exact ⟨z,rfl,q⟩
  ·split at h
   ·omega
   ·obtain ⟨xs,h1,h2⟩:=rix_mem (rr:=t) (y:=y) (k:=k - 1) (by omega)
    obtain ⟨m,rfl⟩:∃ m,k = m + 1:=⟨k - 1,by omega⟩
    exact ⟨xs,by simpa using h1,h2⟩
theorem Rws.rix {n:Nat} {ps:List Int} {rr:List (List Int)} (h:Rws n ps rr) {i:Nat} {xs:List Int} {y:Int} (hx:rr[i]? = some xs) (hy:y ∈ xs):rix rr y = i :=
 rix_at hx hy fun j hj zs hz q=>by have:=h.same hx hz hy q;omega
def regB (c xs:List Int):Bool:=xs.all fun x=>decide (c.getD x.toNat 0 = x)
def abF (c u:List Int) (rr:List (List Int)):List Int:=rr.map fun xs=>if regB c xs then rix rr (u.getD (xs.getD 0 0).toNat 0) else -1
theorem abF_len (c u:List Int) (rr:List (List Int)):(abF c u rr).length = rr.length:=by simp [abF]
theorem abF_at {c u:List Int} {rr:List (List Int)} {i:Nat} {xs:List Int} (h:rr[i]? = some xs):at_ (abF c u rr) i = if regB c xs then rix rr (u.getD (xs.getD 0 0).toNat 0) else -1:=by
 simp [at_,abF,h]
theorem comm_fix {n:Nat} {r u:List Int} (s:Sf n r u) {x:Int} (x0:0<=x) (x1:x < n):(comm r u).getD x.toNat 0 = x ↔ u.getD (r.getD x.toNat 0).toNat 0 = r.getD (u.getD x.toNat 0).toNat 0:=by
 have hr:=s.br.maps x.toNat (by omega)
 have hu:=s.bu.maps x.toNat (by omega)
 have hur:=s.bu.maps (r.getD x.toNat 0).toNat (by omega)
 have lI:(Inv r).length = n:=by rw [Inv_len,s.lr]
 have e:(comm r u).getD x.toNat 0 = (Inv u).getD ((Inv r).getD (u.getD (r.getD x.toNat 0).toNat 0).toNat 0).toNat 0:=by
  unfold comm
  have e1:(thn r u).getD x.toNat 0 = u.getD (r.getD x.toNat 0).toNat 0:=thn_at (by rw [s.lr];omega)
  rw [thn_at (by rw [thn_len,s.lr];omega),e1,thn_at (by omega)]
 rw [e]
 constructor
 ·intro q
  have iR:=(Inv_ok s.r).maps (u.getD (r.getD x.toNat 0).toNat 0).toNat (by omega)
  rw [lI] at iR
  have:=Inv_right s.u (x:=(Inv r).getD (u.getD (r.getD x.toNat 0).toNat 0).toNat 0) iR.1 (by rw [s.lu];exact iR.2)
  rw [q] at this
  rw [this]
  exact (Inv_right s.r hur.1 (by rw [s.lr];exact hur.2)).symm
 ·intro q
  rw [q,Inv_left s.r hu.1 (by rw [s.lr];exact hu.2),Inv_left s.u x0 (by rw [s.lu];exact x1)]
theorem ab_row {r u:List Int} {rr:List (List Int)} {i x:Nat} (hi:i < rr.length) (hx:at_ (abF (comm r u) u rr) i = x):∃ xs ys,rr[i]? = some xs/\rr[x]? = some ys/\regB (comm r u) xs = true/\u.getD (xs.getD 0 0).toNat 0 ∈ ys:=by
 have e:=List.getElem?_eq_getElem hi
 rw [abF_at e] at hx
 split at hx
 ·rename_i q
  obtain ⟨ys,h1,h2⟩:=rix_mem hx
  exact ⟨_,ys,e,h1,q,h2⟩
 ·omega
section
variable {n:Nat} {r u:List Int} (s:Sf n r u) {rr:List (List Int)} (h:Rws n r rr)
include s h
theorem up_it {i:Nat} {xs:List Int} (hx:rr[i]? = some xs) (hreg:regB (comm r u) xs = true) {y:Int} (hy:y ∈ xs):∀ m,u.getD (it r y m).toNat 0 = it r (u.getD y.toNat 0) m
 | 0=>rfl
 | m + 1=>by
  have hm:=h.it_in hx hy m
  obtain ⟨a,b⟩:=h.rng hx hm
  have q:(comm r u).getD (it r y m).toNat 0 = it r y m:=by
   have:=List.all_eq_true.1 hreg _ hm
   simpa using this
  show u.getD (r.getD (it r y m).toNat 0).toNat 0 = r.getD (it r (u.getD y.toNat 0) m).toNat 0
  rw [<-up_it hx hreg hy m]
  exact (comm_fix s a b).1 q
theorem ab_inj:Inj rr.length (abF (comm r u) u rr):=by
 refine ⟨abF_len _ _ _,fun i hi=>?_,fun i hi=>?_,fun i j x hi hj ei ej=>?_⟩
 ·rw [abF_at (List.getElem?_eq_getElem hi)]
  split
  ·exact (rix_low _ _).2
  ·omega
 ·rw [abF_at (List.getElem?_eq_getElem hi)]
  split
  ·exact (rix_low _ _).1
  ·omega
 ·obtain ⟨xs,zs,x1,x2,x3,x4⟩:=ab_row hi ei
  obtain ⟨ys,zs',y1,y2,y3,y4⟩:=ab_row hj ej
  have e:zs' = zs:=by rw [x2] at y2;exact (Option.some.inj y2).symm
  subst e
  obtain ⟨m,hm⟩:=h.reach x2 x4 y4
  rw [<-up_it s h x1 x3 (h.head x1).2] at hm
  have a1:=h.it_in x1 (h.head x1).2 m
  have a2:=h.rng x1 a1
  have b1:=(h.head y1).2
  have b2:=h.rng y1 b1
  have:=s.bu.inj _ _ (by omega) (by omega) hm
  have e2:it r (xs.getD 0 0) m = ys.getD 0 0:=by omega
  rw [e2] at a1
  exact h.same x1 y1 a1 b1
theorem ab_len {i x:Nat} (hi:i < rr.length) (hx:at_ (abF (comm r u) u rr) i = x) {xs ys:List Int} (h1:rr[i]? = some xs) (h2:rr[x]? = some ys):ys.length = xs.length:=by
 obtain ⟨xs',ys',x1,x2,x3,x4⟩:=ab_row hi hx
 have e1:xs' = xs:=by rw [h1] at x1;exact (Option.some.inj x1).symm
 have e2:ys' = ys:=by rw [h2] at x2;exact (Option.some.inj x2).symm
 subst e1;subst e2
 have hf:=(h.head h1).2
 obtain ⟨f0,f1⟩:=h.rng h1 hf
 obtain ⟨g0,g1⟩:=h.rng h2 x4
 obtain ⟨a,a1,a2,_⟩:=h.way h1
 obtain ⟨b,b1,b2,_⟩:=h.way h2
 have wf:=cyc_way h.bij f0 f1
 have wg:=cyc_way h.bij g0 g1
 have p1:(cyc r n (xs'.getD 0 0)).length = xs'.length:=by
  rw [a2] at hf
  have:=per_same h.bij (f:=(a:Int)) (by omega) (by omega) hf
  rw [<-a2] at this hf
  exact this
 have p2:(cyc r n (u.getD (xs'.getD 0 0).toNat 0)).length = ys'.length:=by
  rw [b2] at x4
  have:=per_same h.bij (f:=(b:Int)) (by omega) (by omega) x4
  rw [<-b2] at this
  exact this
 rw [<-p1,<-p2]
 generalize hfe:xs'.getD 0 0 = f at *
 have ui:=fun m=>up_it s h h1 x3 (y:=f) (by rw [<-hfe];exact (h.head h1).2) m
 generalize hge:u.getD f.toNat 0 = g at *
 have lf:=way_last wf
 have lg:=way_last wg
 have pf:=wf.pos
 have pg:=wg.pos
 rcases Nat.lt_trichotomy (cyc r n g).length (cyc r n f).length with q | q | q
 ·have e:it r f (cyc r n g).length = f:=by
   have e0:u.getD (it r f (cyc r n g).length).toNat 0 = u.getD f.toNat 0:=by rw [ui,<-lg,hge]
   have hin:=Go.Proofs.Ytgcnemkhppkkcaa.pm.it_in h.bij f0 f1 (cyc r n g).length
   have:=s.bu.inj _ _ (by omega) (by omega) e0
   omega
  have:=nodup_getD wf.inn.nd (i:=(cyc r n g).length) (j:=0) q pf (by rw [way_it wf _ q,e,wf.head])
  omega
 ·exact q
 ·have e:it r g (cyc r n f).length = g:=by rw [<-ui,<-lf,hge]
  have:=nodup_getD wg.inn.nd (i:=(cyc r n f).length) (j:=0) q pg (by rw [way_it wg _ q,e,wg.head])
  omega
end
end Go.Proofs.Ytgcnemkhppkkcaa.cy

namespace Go.Proofs.Ytgcnemkhppkkcaa.cy
open pm arr
set_option linter.unusedVariables false
set_option maxRecDepth 100000
def wsum:List Bool->List (List Int)->Nat
 | b :: M,xs :: R=>(if b then xs.length else 0) + wsum M R
 | _,_=>0
theorem cnt_cons (b:Bool) (M:List Bool):cnt (b :: M) = (if b then 1 else 0) + cnt M:=by
 unfold cnt
 rw [List.count_cons]
 cases b <;> simp <;> omega
theorem wsum_more {l:Nat}:∀ {M M':List Bool} {R:List (List Int)},M.length = R.length->M'.length = R.length->(∀ j,on M j->on M' j)->(∀ (j:Nat) (xs:List Int),R[j]? = some xs->on M' j->¬ on M j->xs.length = l) ->
  wsum M' R + l * cnt M = wsum M R + l * cnt M'/\cnt M<=cnt M'
 | [],[],[],_,_,_,_=>by simp [wsum]
 | [],_ :: _,[],_,h2,_,_=>by simp at h2
 | _ :: _,_,[],h1,_,_,_=>by simp at h1
 | [],_,_ :: _,h1,_,_,_=>by simp at h1
 | _ :: _,[],_ :: _,_,h2,_,_=>by simp at h2
 | b :: M,b' :: M',xs :: R,h1,h2,h3,h4=>by
  obtain ⟨ih,ih2⟩:=wsum_more (l:=l) (M:=M) (M':=M') (R:=R) (by simpa using h1) (by simpa using h2) (fun j hj=>by have:=h3 (j + 1);simpa [on] using this (by simpa [on] using hj)) (fun j ys hy a b=>h4 (j + 1) ys (by simpa using hy) (by simpa [on] using a) (by simpa [on] using b))
  rw [wsum,wsum,cnt_cons,cnt_cons]
  cases b with
  | true =>
   have:b' = true:=by have:=h3 0;simpa [on] using this
   subst this
   simp only [if_true]
   refine ⟨?_,by omega⟩
   rw [Nat.mul_add,Nat.mul_add]
   omega
  | false =>
   cases b' with
   | false=>simp;exact ⟨ih,ih2⟩
   | true =>
    have:=h4 0 xs rfl (by simp [on]) (by simp [on])
    simp only [if_true,Bool.false_eq_true,if_false,Nat.mul_add,Nat.mul_one,Nat.zero_add]
    refine ⟨?_,by omega⟩
    omega
theorem wsum_all:∀ {M:List Bool} {R:List (List Int)},M.length = R.length->(∀ j,j < R.length->on M j)->wsum M R = (R.map List.length).sum/\cnt M = R.length
 | [],[],_,_=>by simp [wsum,cnt]
 | b :: M,xs :: R,h1,h2=>by
  obtain ⟨a,c⟩:=wsum_all (M:=M) (R:=R) (by simpa using h1) (fun j hj=>by have:=h2 (j + 1) (by simp;omega);simpa [on] using this)
  have:b = true:=by have:=h2 0 (by simp);simpa [on] using this
  subst this
  rw [wsum,cnt_cons]
  simp [a,c];omega
theorem wsum_none:∀ (R:List (List Int)),wsum (List.replicate R.length false) R = 0/\cnt (List.replicate R.length false) = 0
 | []=>by simp [wsum,cnt]
 | xs :: R=>by
  obtain ⟨a,b⟩:=wsum_none R
  rw [List.length_cons,List.replicate_succ,wsum,cnt_cons]
  simp [a,b]
def aS (L:List (Int × Int)):Int:=(L.map fun x=>x.1 * x.2).sum
def hS (L:List (Int × Int)):Int:=(L.map fun x=>x.2).sum
theorem aS_app (L:List (Int × Int)) (x:Int × Int):aS (L ++ [x]) = aS L + x.1 * x.2:=by simp [aS]
theorem hS_app (L:List (Int × Int)) (x:Int × Int):hS (L ++ [x]) = hS L + x.2:=by simp [hS]
structure Cyl (ab:List Int) (rr:List (List Int)) (i:Nat):Prop where
 area:aS (cyS ab rr i).2 = wsum (cyS ab rr i).1 rr
 high:hS (cyS ab rr i).2 = cnt (cyS ab rr i).1
 all:∀ j,j < i->on (cyS ab rr i).1 j
 each:∀ x ∈ (cyS ab rr i).2,∃ w h:Nat,x = ((w:Int),(h:Int))/\1<=w/\1<=h/\∃ (j:Nat) (xs:List Int),rr[j]? = some xs/\xs.length = w
theorem cyl_ok {n:Nat} {r u:List Int} (s:Sf n r u) {rr:List (List Int)} (h:Rws n r rr):∀ i,i<=rr.length->Cyl (abF (comm r u) u rr) rr i
 | 0,_=>by
  obtain ⟨a,b⟩:=wsum_none rr
  exact ⟨by simp [cyS,aS,a],by simp [cyS,hS,b],fun j hj=>by omega,fun x hx=>by simp [cyS] at hx⟩
 | i + 1,hi=>by
  have ih:=cyl_ok s h i (by omega)
  have inj:=ab_inj s h
  obtain ⟨o1,o2,o3⟩:=cyS_ok inj i (by omega)
  by_cases q:(cyS (abF (comm r u) u rr) rr i).1[i]? = some true
  ·have e:=cyS_yes q
   refine ⟨by rw [e];exact ih.area,by rw [e];exact ih.high,fun j hj=>?_,by rw [e];exact ih.each⟩
   rw [e]
   by_cases z:j = i
   ·subst z;exact q
   ·exact ih.all j (by omega)
  ·have e:=cyS_no (not_on (by omega) q)
   have hx:rr[i]? = some rr[i]:=List.getElem?_eq_getElem (by omega)
   have hD:rr.getD i [] = rr[i]:=by simp [List.getD,hx]
   rw [hD] at e
   have ia:=ih.area;have ib:=ih.high;have ic:=ih.all;have ie:=ih.each
   clear ih
   generalize hM:(cyS (abF (comm r u) u rr) rr i).1 = M at *
   generalize hL:(cyS (abF (comm r u) u rr) rr i).2 = L at *
   have sub:∀ j,on M j->on (clos rr.length (abF (comm r u) u rr) M i) j:=fun j hj=>clos_sub o1 hj
   have same:∀ (j:Nat) (xs:List Int),rr[j]? = some xs->on (clos rr.length (abF (comm r u) u rr) M i) j->¬ on M j->xs.length = rr[i].length:=by
    intro j xs hj hon hno
    have hjl:=(List.getElem?_eq_some_iff.1 hj).1
    have hT:=(clos_on hjl).1 hon (fun k=>on M k\/∃ ys,rr[k]? = some ys/\ys.length = rr[i].length) (fun a x ha hax=>?_) (fun k hk=>.inl hk) (.inr ⟨_,hx,rfl⟩)
    ·rcases hT with z | ⟨ys,z1,z2⟩
     ·exact absurd z hno
     ·rw [hj] at z1;obtain rfl:=Option.some.inj z1;exact z2
    ·have hxl:x < rr.length:=by have:=inj.rng a ha;omega
     have ea:=List.getElem?_eq_getElem ha
     have ex:=List.getElem?_eq_getElem hxl
     have hlen:=ab_len s h ha hax ea ex
     constructor
     ·rintro (z | ⟨ys,z1,z2⟩)
      ·exact .inl ((o2 a x ha hax).1 z)
      ·rw [ea] at z1;obtain rfl:=Option.some.inj z1
       exact .inr ⟨_,ex,by omega⟩
     ·rintro (z | ⟨ys,z1,z2⟩)
      ·exact .inl ((o2 a x ha hax).2 z)
      ·rw [ex] at z1;obtain rfl:=Option.some.inj z1
       exact .inr ⟨_,ea,by omega⟩
   obtain ⟨w1,w2⟩:=wsum_more (l:=rr[i].length) o1 (clos_len _ _ _ _) sub same
   have hnew:cnt M < cnt (clos rr.length (abF (comm r u) u rr) M i):=by
    have hs:=clos_self (ab:=abF (comm r u) u rr) (M:=M) (show i < rr.length by omega)
    have hcm:M[i]? = some false:=not_on (by omega) q
    obtain ⟨_,w3⟩:=wsum_more (l:=rr[i].length) (M:=M.set i true) (M':=clos rr.length (abF (comm r u) u rr) M i) (R:=rr) (by rw [List.length_set];exact o1) (clos_len _ _ _ _) (fun j hj=>by
     rcases (on_set (by omega)).1 hj with z | z
     ·subst z;exact hs
     ·exact sub j z) (fun j xs a b c=>same j xs a b (fun z=>c ((on_set (by omega)).2 (.inr z))))
    rw [cnt_set hcm] at w3
    omega
   refine ⟨?_,?_,fun j hj=>?_,fun x hx2=>?_⟩
   ·rw [e]
    show aS (L ++ [_]) = _
    rw [aS_app,ia]
    show (wsum M rr:Int) + (rr[i].length:Int) * ((cnt (clos rr.length (abF (comm r u) u rr) M i) - cnt M:Nat):Int) = (wsum (clos rr.length (abF (comm r u) u rr) M i) rr:Int)
    have:wsum M rr + rr[i].length * (cnt (clos rr.length (abF (comm r u) u rr) M i) - cnt M) = wsum (clos rr.length (abF (comm r u) u rr) M i) rr:=by
     rw [Nat.mul_sub]
     have:=Nat.mul_le_mul_left rr[i].length w2
     omega
    rw [<-this];simp
   ·rw [e]
    show hS (L ++ [_]) = _
    rw [hS_app,ib]
    show (cnt M:Int) + ((cnt (clos rr.length (abF (comm r u) u rr) M i) - cnt M:Nat):Int) = (cnt (clos rr.length (abF (comm r u) u rr) M i):Int)
    omega
   ·rw [e]
    by_cases z:j = i
    ·subst z;exact clos_self (by omega)
    ·exact sub j (ic j (by omega))
   ·rw [e] at hx2
    rcases List.mem_append.1 hx2 with z | z
    ·exact ie x z
    ·obtain rfl:x = _:=by simpa using z
     exact ⟨rr[i].length,_,rfl,(h.head hx).1,by omega,i,_,hx,rfl⟩
end Go.Proofs.Ytgcnemkhppkkcaa.cy

namespace Go.Proofs.Ytgcnemkhppkkcaa.pm
open arr inv permOf
set_option linter.unusedVariables false
set_option maxRecDepth 100000
def isL (c:UInt8):Bool:=decide (c.toNat = 84) || decide (c.toNat = 116) || decide (c.toNat = 83) || decide (c.toNat = 115)
def letS (c:UInt8) (s:Sur):Sur:=if c.toNat = 84 then shearS s else if c.toNat = 116 then unshearS s else if c.toNat = 83 then turnS s else unturnS s
def inL (c:UInt8):UInt8:=if c.toNat = 84 then 116 else if c.toNat = 116 then 84 else if c.toNat = 83 then 115 else 83
def runS (w:List UInt8) (s:Sur):Sur:=w.foldl (fun s c=>letS c s) s
theorem letS_sf {n:Nat} {R U:List Int} (s:Sf n R U) (c:UInt8):Sf n (letS c (R,U)).1 (letS c (R,U)).2:=by
 unfold letS
 split
 ·exact shear_sf s
 ·split
  ·exact unshear_sf s
  ·split
   ·exact turn_sf s
   ·exact unturn_sf s
theorem isL_iff {c:UInt8}:isL c = true ↔ c.toNat = 84\/c.toNat = 116\/c.toNat = 83\/c.toNat = 115:=by simp [isL,or_assoc]
theorem letS_inv {n:Nat} {R U:List Int} (s:Sf n R U) {c:UInt8} (hc:isL c = true):letS (inL c) (letS c (R,U)) = (R,U):=by
 rcases isL_iff.1 hc with h | h | h | h
 ·have e1:letS c (R,U) = shearS (R,U):=by unfold letS;rw [if_pos h]
  have e2:inL c = 116:=by unfold inL;rw [if_pos h]
  rw [e1,e2];exact unshear_shear s
 ·have e1:letS c (R,U) = unshearS (R,U):=by unfold letS;rw [if_neg (by omega),if_pos h]
  have e2:inL c = 84:=by unfold inL;rw [if_neg (by omega),if_pos h]
  rw [e1,e2];exact shear_unshear s
 ·have e1:letS c (R,U) = turnS (R,U):=by unfold letS;rw [if_neg (by omega),if_neg (by omega),if_pos h]
  have e2:inL c = 115:=by unfold inL;rw [if_neg (by omega),if_neg (by omega),if_pos h]
  rw [e1,e2];exact unturn_turn s
 ·have e1:letS c (R,U) = unturnS (R,U):=by unfold letS;rw [if_neg (by omega),if_neg (by omega),if_neg (by omega)]
  have e2:inL c = 83:=by unfold inL;rw [if_neg (by omega),if_neg (by omega),if_neg (by omega)]
  rw [e1,e2];exact turn_unturn s
theorem runS_sf {n:Nat}:∀ (w:List UInt8) (s:Sur),Sf n s.1 s.2->Sf n (runS w s).1 (runS w s).2:=by
 intro w
 induction w with
 | nil=>intro s h;exact h
 | cons c w ih=>intro s h;exact ih (letS c s) (letS_sf (R:=s.1) (U:=s.2) h c)
theorem runS_snoc (w:List UInt8) (c:UInt8) (s:Sur):runS (w ++ [c]) s = letS c (runS w s):=by simp [runS]
theorem ren_of {n:Nat} {X Y P:List Int} (x:Ok X) (y:Ok Y) (p:Ok P) (lx:X.length = n) (ly:Y.length = n) (lp:P.length = n) (h:thn X P = thn P Y):Ren n X Y P:=by
 have b:∀ q:List Int,Ok q->q.length = n->Bij n q:=fun q h l=>by have:=h.bij;rw [l] at this;exact this
 refine ⟨b X x lx,b Y y ly,b P p lp,fun i hi=>?_⟩
 have e:(thn X P).getD i 0 = (thn P Y).getD i 0:=by rw [h]
 rw [thn_at (by omega),thn_at (by omega)] at e
 exact e.symm
end Go.Proofs.Ytgcnemkhppkkcaa.pm

namespace Go.Proofs.Ytgcnemkhppkkcaa.orb
open pm
set_option linter.unusedVariables false
set_option maxRecDepth 100000
def cn (s:Sur):Sur:=can s.1 s.2 s.1.length
def fnd:List Sur->Sur->Int
 | [],_=>-1
 | y :: L,x=>if y = x then 0 else if fnd L x < 0 then -1 else fnd L x + 1
theorem fnd_at {L:List Sur} {x:Sur} {k:Nat} (h1:L[k]? = some x) (h2:∀ j,j < k->L[j]? ≠ some x):fnd L x = k:=by
 induction L generalizing k with
 | nil=>simp at h1
 | cons y L ih =>
  unfold fnd
  cases k with
  | zero=>simp at h1;rw [if_pos h1];rfl
  | succ k =>
   have h0:¬ y = x:=fun e=>h2 0 (by omega) (by simp [e])
   have:=ih (k:=k) (by simpa using h1) (fun j hj=>by simpa using h2 (j + 1) (by omega))
   rw [if_neg h0,this,if_neg (by omega)]
   omega
theorem fnd_get {L:List Sur} {x:Sur} (h:x ∈ L):∃ k:Nat,fnd L x = k/\k < L.length/\L[k]? = some x:=by
 induction L with
 | nil=>simp at h
 | cons y L ih =>
  unfold fnd
  by_cases e:y = x
  ·exact ⟨0,by simp [e],by simp,by simp [e]⟩
  ·have hx:x ∈ L:=by
    rcases List.mem_cons.1 h with q | q
    ·exact absurd q.symm e
    ·exact q
   obtain ⟨k,h1,h2,h3⟩:=ih hx
   exact ⟨k + 1,by rw [if_neg e,h1,if_neg (by omega)];omega,by simp;omega,by simpa using h3⟩
abbrev LW:=List Sur × List (List UInt8)
def stp (c:UInt8) (s:Sur):Sur:=cn (letS c s)
def addL (k:Nat) (c:UInt8) (q:LW):LW :=
 if stp c (q.1.getD k ([],[])) ∈ q.1 then q else (q.1 ++ [stp c (q.1.getD k ([],[]))],q.2 ++ [q.2.getD k [] ++ [c]])
def two (k:Nat) (q:LW):LW:=addL k 83 (addL k 84 q)
def orun:Nat->Nat->LW->Option LW
 | 0,_,_=>none
 | f + 1,k,q=>if k < q.1.length then (if 120 < (two k q).1.length then none else orun f (k + 1) (two k q)) else some q
def orb (s:Sur):Option LW:=orun 122 0 ([cn s],[[]])
structure Oi (n:Nat) (q:LW):Prop where
 len:q.2.length = q.1.length
 sf:∀ x ∈ q.1,Sf n x.1 x.2
 wl:∀ (k:Nat) (w:List UInt8),q.2[k]? = some w->w.length<=k
theorem cn_sf {n:Nat} {s:Sur} (h:Sf n s.1 s.2):Sf n (cn s).1 (cn s).2:=by
 unfold cn
 rw [h.lr]
 obtain ⟨ns,_,h2⟩:=h.can_iso
 exact h2
theorem Oi.start {n:Nat} {s:Sur} (h:Sf n s.1 s.2):Oi n ([cn s],[[]]) :=
 ⟨rfl,fun x hx=>by simp at hx;subst hx;exact cn_sf h,fun k w hw=>by
  cases k with
  | zero=>simp at hw;subst hw;simp
  | succ k=>simp at hw⟩
theorem Oi.at {n:Nat} {q:LW} (h:Oi n q) {k:Nat} (hk:k < q.1.length):∃ x w,q.1[k]? = some x/\q.1.getD k ([],[]) = x/\Sf n x.1 x.2/\q.2[k]? = some w/\q.2.getD k [] = w/\w.length<=k:=by
 have hk2:k < q.2.length:=by rw [h.len];exact hk
 have e2:=List.getElem?_eq_getElem hk2
 refine ⟨q.1[k],q.2[k],List.getElem?_eq_getElem hk,?_,h.sf _ (List.getElem_mem hk),e2,?_,h.wl k _ e2⟩
 ·rw [List.getD_eq_getElem?_getD,List.getElem?_eq_getElem hk];rfl
 ·rw [List.getD_eq_getElem?_getD,e2];rfl
theorem addL_sub (k:Nat) (c:UInt8) (q:LW):∃ r,(addL k c q).1 = q.1 ++ r/\r.length<=1:=by
 unfold addL
 split
 ·exact ⟨[],by simp⟩
 ·exact ⟨_,rfl,by simp⟩
theorem Oi.add {n:Nat} {q:LW} (h:Oi n q) {k:Nat} (hk:k < q.1.length) (c:UInt8):Oi n (addL k c q):=by
 obtain ⟨x,w,h1,h2,h3,h4,h5,h6⟩:=h.at hk
 unfold addL
 split
 ·exact h
 ·refine ⟨by simp [h.len],fun y hy=>?_,fun j u hu=>?_⟩
  ·rcases List.mem_append.1 hy with q' | q'
   ·exact h.sf y q'
   ·simp at q'
    subst q'
    rw [h1]
    exact cn_sf (letS_sf h3 c)
  ·simp only at hu
   rw [List.getElem?_append] at hu
   split at hu
   ·exact h.wl j u hu
   ·rename_i hj
    have hl:=h.len
    rcases Nat.eq_zero_or_pos (j - q.2.length) with e | e
    ·rw [e] at hu
     simp at hu
     subst hu
     rw [show q.2[k]?.getD [] = w by rw [h4];rfl]
     simp;omega
    ·rw [List.getElem?_eq_none (by simp;omega)] at hu;cases hu
end Go.Proofs.Ytgcnemkhppkkcaa.orb

namespace Go.Proofs.Ytgcnemkhppkkcaa.orb
open pm
set_option linter.unusedVariables false
set_option maxRecDepth 100000
def shN:Nat->Sur->Sur
 | 0,s=>s
 | k + 1,s=>shearS (shN k s)
theorem shN_sf {n:Nat} {s:Sur} (h:Sf n s.1 s.2):∀ k,Sf n (shN k s).1 (shN k s).2
 | 0=>h
 | k + 1=>shear_sf (shN_sf h k)
theorem shN_fst (s:Sur):∀ k,(shN k s).1 = s.1
 | 0=>rfl
 | k + 1=>shN_fst s k
theorem thn_getD {xs ys:List Int} {i:Nat} (h:i < xs.length):(thn xs ys).getD i 0 = ys.getD (xs.getD i 0).toNat 0:=by
 unfold thn
 rw [map_at h]
theorem shN_snd {n:Nat} {R U:List Int} (h:Sf n R U):∀ (k i:Nat),i < n->(shN k (R,U)).2.getD i 0 = U.getD (it (Inv R) i k).toNat 0:=by
 intro k
 induction k with
 | zero=>intro i hi;simp [shN,it]
 | succ k ih =>
  intro i hi
  have lI:(Inv R).length = n:=by rw [Inv_len];exact h.lr
  have bI:Bij n (Inv R):=by have:=(Inv_ok h.r).bij;rwa [lI] at this
  have e:(shN (k + 1) (R,U)).2 = thn (Inv (shN k (R,U)).1) (shN k (R,U)).2:=rfl
  rw [e,shN_fst,thn_getD (by rw [lI];exact hi)]
  obtain ⟨a0,a1⟩:=bI.maps i hi
  obtain ⟨z,hz⟩:=Int.eq_ofNat_of_zero_le a0
  have hzn:z < n:=by omega
  rw [hz,Int.toNat_natCast,ih z hzn]
  have e1:(z:Int) = it (Inv R) i 1:=by rw [<-hz];simp [it]
  rw [e1,it_add,Nat.add_comm 1 k]
theorem it_per {n:Nat} {ps:List Int} (hb:Bij n ps) {x:Int} (x0:0<=x) (x1:x < n):it ps x (cyc ps n x).length = x:=(way_last (cyc_way hb x0 x1)).symm
theorem it_mul {n:Nat} {ps:List Int} (hb:Bij n ps) {x:Int} (x0:0<=x) (x1:x < n) (m:Nat):it ps x ((cyc ps n x).length * m) = x:=by
 induction m with
 | zero=>rfl
 | succ m ih=>rw [Nat.mul_succ,<-it_add,ih,it_per hb x0 x1]
theorem prod_le:∀ (l:List Nat),l.prod<=2 ^ l.sum
 | []=>by simp
 | a :: l=>by
  rw [List.prod_cons,List.sum_cons,Nat.pow_add]
  exact Nat.mul_le_mul (Nat.le_of_lt a.lt_two_pow_self) (prod_le l)
theorem prod_pos:∀ (l:List Nat),(∀ a ∈ l,0 < a)->0 < l.prod
 | [],_=>by simp
 | a :: l,h=>by
  rw [List.prod_cons]
  exact Nat.mul_pos (h a (by simp)) (prod_pos l (fun b hb=>h b (List.mem_cons_of_mem _ hb)))
theorem dvd_prod:∀ {l:List Nat} {a:Nat},a ∈ l->a ∣ l.prod
 | b :: l,a,h=>by
  rw [List.prod_cons]
  rcases List.mem_cons.1 h with rfl | h
  ·exact Nat.dvd_mul_right _ _
  ·exact Nat.dvd_trans (dvd_prod h) (Nat.dvd_mul_left _ _)
theorem it_back {n:Nat} {ps:List Int} (hb:Bij n ps):∃ K,0 < K/\K<=2 ^ n/\∀ x:Int,0<=x->x < n->it ps x K = x:=by
 refine ⟨((cso ps n n).map List.length).prod,prod_pos _ (fun a ha=>?_),by have:=prod_le ((cso ps n n).map List.length);rwa [cso_len hb] at this,fun x x0 x1=>?_⟩
 ·obtain ⟨c,hc,rfl⟩:=List.mem_map.1 ha
  obtain ⟨i,hi,rfl⟩:=cso_cyc n (Nat.le_refl _) c hc
  have hm:(i:Int) ∈ cyc ps n (i:Int):=cyc_self hb (by omega) (by omega)
  exact List.length_pos_of_mem hm
 ·have hx:x ∈ (cso ps n n).flatten:=(cso_rng hb).mem_iff.2 (mem_rng.2 ⟨x0,x1⟩)
  obtain ⟨c,hc,hxc⟩:=List.mem_flatten.1 hx
  obtain ⟨i,hi,rfl⟩:=cso_cyc n (Nat.le_refl _) c hc
  have hp:=per_same hb (f:=(i:Int)) (by omega) (by omega) hxc
  have hd:(cyc ps n x).length ∣ ((cso ps n n).map List.length).prod:=by rw [hp];exact dvd_prod (List.mem_map.2 ⟨_,hc,rfl⟩)
  obtain ⟨m,e⟩:=hd
  rw [e]
  exact it_mul hb x0 x1 m
theorem sh_back {n:Nat} {s:Sur} (h:Sf n s.1 s.2):∃ K,0 < K/\K<=16777216/\shN K s = s:=by
 obtain ⟨R,U⟩:=s
 have lI:(Inv R).length = n:=by rw [Inv_len];exact h.lr
 have bI:Bij n (Inv R):=by have:=(Inv_ok h.r).bij;rwa [lI] at this
 obtain ⟨K,k0,k1,hk⟩:=it_back bI
 have n24:n<=24:=by have:=h.r.len;have:=h.lr;omega
 refine ⟨K,k0,Nat.le_trans k1 (by have:=Nat.pow_le_pow_right (n:=2) (by decide) n24;simpa using this),?_⟩
 have hs:=shN_sf h K
 refine Prod.ext (shN_fst _ _) (list_eq n hs.lu h.lu fun i hi=>?_)
 rw [shN_snd h K i hi,hk i (by omega) (by omega),Int.toNat_natCast]
def spGo (s:Sur):Nat->Nat->Nat
 | 0,k=>k
 | f + 1,k=>if cn (shN k s) = cn s then k else spGo s f (k + 1)
def spF (r u:List Int):Int:=if transB r u then (spGo (r,u) 16777216 1:Nat) else 0
theorem spGo_yes {s:Sur} {f k:Nat} (h:cn (shN k s) = cn s):spGo s f k = k:=by
 cases f with
 | zero=>rfl
 | succ f=>rw [spGo,if_pos h]
theorem spGo_no {s:Sur} {f k:Nat} (h:¬ cn (shN k s) = cn s):spGo s (f + 1) k = spGo s f (k + 1):=by rw [spGo,if_neg h]
structure Sg (s:Sur) (k:Nat):Prop where
 pos:0 < k
 go:spGo s (16777217 - k) k = spGo s 16777216 1
 no:∀ j,0 < j->j < k->¬ cn (shN j s) = cn s
theorem Sg.start (s:Sur):Sg s 1:=⟨by omega,rfl,fun j h1 h2=>by omega⟩
theorem Sg.le {n k:Nat} {s:Sur} (h:Sg s k) (hs:Sf n s.1 s.2):k<=16777216:=by
 obtain ⟨K,k0,k1,hk⟩:=sh_back hs
 rcases Nat.lt_or_ge K k with q | q
 ·exact absurd (by rw [hk]) (h.no K k0 q)
 ·omega
theorem Sg.next {n k:Nat} {s:Sur} (h:Sg s k) (hs:Sf n s.1 s.2) (hne:¬ cn (shN k s) = cn s):Sg s (k + 1):=by
 have hk:=h.le hs
 refine ⟨by omega,?_,fun j h1 h2=>?_⟩
 ·rw [<-h.go,show 16777217 - k = (16777217 - (k + 1)) + 1 by omega,spGo_no hne]
 ·by_cases e:j = k
  ·subst e;exact hne
  ·exact h.no j h1 (by omega)
theorem Sg.done {k:Nat} {s:Sur} (h:Sg s k) (he:cn (shN k s) = cn s):spGo s 16777216 1 = k:=by rw [<-h.go,spGo_yes he]
end Go.Proofs.Ytgcnemkhppkkcaa.orb

namespace Go.Proofs.Ytgcnemkhppkkcaa.cy
open pm arr inv orb
set_option linter.unusedVariables false
set_option maxRecDepth 100000
structure Lc (N:Nat) (ab:List Int) (S:List Bool) (r:Nat) (l:List Nat):Prop where
 nd:l.Nodup
 lt:∀ j ∈ l,j < N
 row:r ∈ l
 nx:∀ t,t + 1 < l.length->at_ ab (l.getD t 0) = ((l.getD (t + 1) 0:Nat):Int)
 min:∀ T:Nat->Prop,Closed N ab T->(∀ j,on S j->T j)->T r->∀ j ∈ l,T j
 dis:∀ j ∈ l,¬ on S j
theorem gD_mem {l:List Nat} {t:Nat} (h:t < l.length):l.getD t 0 ∈ l:=by
 rw [List.getD_eq_getElem?_getD,List.getElem?_eq_getElem h];exact List.getElem_mem h
theorem gD_of {l:List Nat} {j:Nat} (h:j ∈ l):∃ t,t < l.length/\l.getD t 0 = j:=by
 obtain ⟨t,ht,e⟩:=List.mem_iff_getElem.1 h
 exact ⟨t,ht,by rw [List.getD_eq_getElem?_getD,List.getElem?_eq_getElem ht];exact e⟩
theorem gD_inj {l:List Nat} (hn:l.Nodup) {s t:Nat} (hs:s < l.length) (ht:t < l.length) (h:l.getD s 0 = l.getD t 0):s = t:=by
 rw [List.getD_eq_getElem?_getD,List.getD_eq_getElem?_getD,List.getElem?_eq_getElem hs,List.getElem?_eq_getElem ht] at h
 exact (List.getElem_inj hn).1 h
theorem Lc.pos {N r:Nat} {ab:List Int} {S:List Bool} {l:List Nat} (h:Lc N ab S r l):0 < l.length:=List.length_pos_of_mem h.row
def Le (N:Nat) (ab:List Int) (l:List Nat):Prop :=
 at_ ab (l.getD (l.length - 1) 0) = ((l.getD 0 0:Nat):Int)\/(at_ ab (l.getD (l.length - 1) 0) < 0/\∀ k,k < N->at_ ab k ≠ ((l.getD 0 0:Nat):Int))
theorem lc_done {N r:Nat} {ab:List Int} {S:List Bool} (hi:Inj N ab) (hS:Closed N ab (on S)):∀ (f:Nat) (l:List Nat),Lc N ab S r l->N<=l.length + f->∃ l',Lc N ab S r l'/\Le N ab l':=by
 intro f
 induction f with
 | zero =>
  intro l h hf
  have hp:=h.pos
  have hall:∀ x,x < N->x ∈ l:=fun x hx=>by
   apply Classical.byContradiction
   intro hn
   have:=nodup_le N (x :: l) (List.nodup_cons.2 ⟨hn,h.nd⟩) (fun j hj=>by
    rcases List.mem_cons.1 hj with rfl | q
    ·exact hx
    ·exact h.lt j q)
   simp at this
   omega
  have hlast:=h.lt _ (gD_mem (show l.length - 1 < l.length by omega))
  refine ⟨l,h,?_⟩
  by_cases hneg:at_ ab (l.getD (l.length - 1) 0) < 0
  ·refine .inr ⟨hneg,fun k hk e=>?_⟩
   obtain ⟨t,ht,et⟩:=gD_of (hall k hk)
   by_cases h1:t + 1 < l.length
   ·have:=h.nx t h1
    rw [et,e] at this
    have:=gD_inj h.nd hp h1 (by omega)
    omega
   ·rw [show l.length - 1 = t by omega,et,e] at hneg
    omega
  ·obtain ⟨x,hx⟩:=Int.eq_ofNat_of_zero_le (show 0<=at_ ab (l.getD (l.length - 1) 0) by omega)
   have hxN:x < N:=by have:=hi.rng _ hlast;omega
   obtain ⟨t,ht,et⟩:=gD_of (hall x hxN)
   cases t with
   | zero=>exact .inl (by rw [hx,et])
   | succ t =>
    have e1:=h.nx t ht
    rw [et] at e1
    have:=hi.inj _ _ x (h.lt _ (gD_mem (show t < l.length by omega))) hlast e1 hx
    have:=gD_inj h.nd (show t < l.length by omega) (show l.length - 1 < l.length by omega) this
    omega
 | succ f ih =>
  intro l h hf
  have hp:=h.pos
  have hlast:=h.lt _ (gD_mem (show l.length - 1 < l.length by omega))
  have hlm:=gD_mem (show l.length - 1 < l.length by omega)
  by_cases hneg:at_ ab (l.getD (l.length - 1) 0) < 0
  ·by_cases hk:∃ k,k < N/\at_ ab k = ((l.getD 0 0:Nat):Int)
   ·obtain ⟨k,hkN,hk⟩:=hk
    have hkl:k ∉ l:=fun q=>by
     obtain ⟨t,ht,et⟩:=gD_of q
     by_cases h1:t + 1 < l.length
     ·have:=h.nx t h1
      rw [et,hk] at this
      have:=gD_inj h.nd hp h1 (by omega)
      omega
     ·rw [show l.length - 1 = t by omega,et,hk] at hneg
      omega
    have h0:=gD_mem hp
    refine ih (k :: l) ⟨List.nodup_cons.2 ⟨hkl,h.nd⟩,fun j hj=>?_,List.mem_cons_of_mem _ h.row,fun t ht=>?_,fun T a b c j hj=>?_,fun j hj=>?_⟩ (by simp;omega)
    ·rcases List.mem_cons.1 hj with rfl | q
     ·exact hkN
     ·exact h.lt j q
    ·cases t with
     | zero=>simpa using hk
     | succ t=>simpa using h.nx t (by simpa using ht)
    ·rcases List.mem_cons.1 hj with rfl | q
     ·exact (a j _ hkN hk).2 (h.min T a b c _ h0)
     ·exact h.min T a b c j q
    ·rcases List.mem_cons.1 hj with rfl | q
     ·exact fun z=>h.dis _ h0 ((hS j _ hkN hk).1 z)
     ·exact h.dis j q
   ·exact ⟨l,h,.inr ⟨hneg,fun k hkN e=>hk ⟨k,hkN,e⟩⟩⟩
  ·obtain ⟨x,hx⟩:=Int.eq_ofNat_of_zero_le (show 0<=at_ ab (l.getD (l.length - 1) 0) by omega)
   have hxN:x < N:=by have:=hi.rng _ hlast;omega
   by_cases hxl:x ∈ l
   ·obtain ⟨t,ht,et⟩:=gD_of hxl
    cases t with
    | zero=>exact ⟨l,h,.inl (by rw [hx,et])⟩
    | succ t =>
     have e1:=h.nx t ht
     rw [et] at e1
     have:=hi.inj _ _ x (h.lt _ (gD_mem (show t < l.length by omega))) hlast e1 hx
     have:=gD_inj h.nd (show t < l.length by omega) (show l.length - 1 < l.length by omega) this
     omega
   ·have gA:∀ t,t < l.length->(l ++ [x]).getD t 0 = l.getD t 0:=fun t ht=>by
     rw [List.getD_eq_getElem?_getD,List.getD_eq_getElem?_getD,List.getElem?_append_left ht]
    refine ih (l ++ [x]) ⟨?_,fun j hj=>?_,List.mem_append_left _ h.row,fun t ht=>?_,fun T a b c j hj=>?_,fun j hj=>?_⟩ (by simp;omega)
    ·rw [List.nodup_append]
     refine ⟨h.nd,by simp,fun a ha b hb=>?_⟩
     rw [List.mem_singleton] at hb
     subst hb
     exact fun e=>hxl (e ▸ ha)
    ·rcases List.mem_append.1 hj with q | q
     ·exact h.lt j q
     ·rw [List.mem_singleton] at q;subst q;exact hxN
    ·rw [List.length_append,List.length_singleton] at ht
     by_cases h1:t + 1 < l.length
     ·rw [gA t (by omega),gA (t + 1) h1];exact h.nx t h1
     ·have ht2:t = l.length - 1:=by omega
      rw [gA t (by omega),ht2,hx]
      have:(l ++ [x]).getD (l.length - 1 + 1) 0 = x:=by
       rw [show l.length - 1 + 1 = l.length by omega];simp [List.getD]
      rw [this]
    ·rcases List.mem_append.1 hj with q | q
     ·exact h.min T a b c j q
     ·rw [List.mem_singleton] at q;subst q
      exact (a _ _ hlast hx).1 (h.min T a b c _ hlm)
    ·rcases List.mem_append.1 hj with q | q
     ·exact h.dis j q
     ·rw [List.mem_singleton] at q;subst q
      exact fun z=>h.dis _ hlm ((hS _ _ hlast hx).2 z)
theorem lc_clos {N r:Nat} {ab:List Int} {S:List Bool} {l:List Nat} (hi:Inj N ab) (hS:Closed N ab (on S)) (hl:S.length = N) (hr:r < N) (h:Lc N ab S r l) (he:Le N ab l) (j:Nat):on (clos N ab S r) j ↔ on S j\/j ∈ l:=by
 have hp:=h.pos
 have hc:Closed N ab (fun j=>on S j\/j ∈ l):=fun i x hiN hx=>by
  have hxN:x < N:=by have:=hi.rng i hiN;omega
  have e1:=hS i x hiN hx
  constructor
  ·rintro (q | q)
   ·exact .inl (e1.1 q)
   ·obtain ⟨t,ht,et⟩:=gD_of q
    by_cases h1:t + 1 < l.length
    ·have:=h.nx t h1
     rw [et,hx] at this
     refine .inr ?_
     rw [show x = l.getD (t + 1) 0 by omega]
     exact gD_mem h1
    ·have ht2:l.length - 1 = t:=by omega
     rcases he with q2 | ⟨q2,_⟩
     ·rw [ht2,et,hx] at q2
      refine .inr ?_
      rw [show x = l.getD 0 0 by omega]
      exact gD_mem hp
     ·rw [ht2,et,hx] at q2;omega
  ·rintro (q | q)
   ·exact .inl (e1.2 q)
   ·obtain ⟨t,ht,et⟩:=gD_of q
    cases t with
    | zero =>
     rcases he with q2 | ⟨_,q2⟩
     ·rw [et] at q2
      have:=hi.inj _ _ x (h.lt _ (gD_mem (show l.length - 1 < l.length by omega))) hiN q2 hx
      refine .inr ?_
      rw [<-this]
      exact gD_mem (by omega)
     ·rw [et] at q2
      exact absurd hx (q2 i hiN)
    | succ t =>
     have e2:=h.nx t ht
     rw [et] at e2
     have:=hi.inj _ _ x (h.lt _ (gD_mem (show t < l.length by omega))) hiN e2 hx
     refine .inr ?_
     rw [<-this]
     exact gD_mem (by omega)
 constructor
 ·intro q
  have hj:j < N:=by have:=on_lt q;rwa [clos_len] at this
  exact (clos_on hj).1 q _ hc (fun _ h=>.inl h) (.inr h.row)
 ·rintro (q | q)
  ·exact clos_sub hl q
  ·exact (clos_on (h.lt j q)).2 fun T a b c=>h.min T a b c j q
theorem cnt_more:∀ (l:List Nat) (M M':List Bool),M'.length = M.length->l.Nodup->(∀ j ∈ l,j < M.length/\¬ on M j)->(∀ j,on M' j ↔ on M j\/j ∈ l)->cnt M' = cnt M + l.length
 | [],M,M',hl,_,_,h=>by
  have:M' = M:=by
   refine List.ext_getElem? fun i=>?_
   by_cases hi:i < M.length
   ·have e1:=List.getElem?_eq_getElem (l:=M') (i:=i) (by omega)
    have e2:=List.getElem?_eq_getElem hi
    have e3:=h i
    unfold on at e3
    rw [e1,e2] at e3 ⊢
    simp at e3
    congr 1
    all_goals exact Bool.eq_iff_iff.2 e3
   ·rw [List.getElem?_eq_none (by omega),List.getElem?_eq_none (by omega)]
  rw [this];simp
 | k :: l,M,M',hl,hn,hd,h=>by
  obtain ⟨h1,h2⟩:=List.nodup_cons.1 hn
  obtain ⟨k1,k2⟩:=hd k (by simp)
  have ih:=cnt_more l (M.set k true) M' (by simpa using hl) h2 (fun j hj=>⟨by simpa using (hd j (by simp [hj])).1,fun q=>by
   rcases (on_set k1).1 q with rfl | z
   ·exact h1 hj
   ·exact (hd j (by simp [hj])).2 z⟩) (fun j=>by
   rw [h j,on_set k1,List.mem_cons]
   exact ⟨fun q=>by
    rcases q with q | q | q
    ·exact .inl (.inr q)
    ·exact .inl (.inl q)
    ·exact .inr q,fun q=>by
    rcases q with (q | q) | q
    ·exact .inr (.inl q)
    ·exact .inl q
    ·exact .inr (.inr q)⟩)
  rw [ih,cnt_set (not_on k1 k2)]
  simp;omega
end Go.Proofs.Ytgcnemkhppkkcaa.cy

namespace Go.Proofs.Ytgcnemkhppkkcaa.fns
open Go.ChangeShapes Go.WideShapes Go.ChangeAt Go.RowKit
open mem ints arr pm mat
set_option linter.unusedVariables false
set_option maxRecDepth 100000
end Go.Proofs.Ytgcnemkhppkkcaa.fns

namespace Go.Proofs.Ytgcnemkhppkkcaa.fns
open Go.ChangeShapes Go.WideShapes Go.ChangeAt Go.RowKit
open mem ints arr pm mat
set_option linter.unusedVariables false
set_option maxRecDepth 100000
end Go.Proofs.Ytgcnemkhppkkcaa.fns

namespace Go.Proofs.Ytgcnemkhppkkcaa.fns
open Go.ChangeShapes Go.WideShapes Go.ChangeAt Go.RowKit
open mem ints arr pm permOk permOf inv mat
set_option linter.unusedVariables false
set_option maxRecDepth 100000
theorem infoII:(sqp.prog.info? 23).map (fun i=>(i.zero,i.size,i.bytes)) = some (some (.slice none 0 0),1,24):=by kernel_rfl
theorem flagsOf_set {l:List Int} {z:Nat}:(flagsOf l).set z true = flagsOf (l ++ [(z:Int)]):=by
 refine tabB_set _ _ fun j hj=>?_
 by_cases hjz:j = z
 ·subst hjz;simp
 ·have:¬ ((j:Int) = (z:Int)):=by omega
  simp [hjz,this]
structure Cm (w wr:World) (ps:List Int) (v:Value) (xss:List (List Int)):Prop where
 p:Arr wr w.heap.size (V ps) 60
 met:Arr wr (w.heap.size + 1) (VB (flagsOf xss.flatten)) 140
 below:Below w.heap.size w wr
 mg:Mg wr (w.heap.size + 2) (w.heap.size + 2) (w.heap.size + 1) v xss
def MGives (xss:List (List Int)) (w:World) (e:Ending) (w':World):Prop:=∃ A c,e = .returned (.slice A xss.length c)/\Mat w' w.heap.size w'.heap.size A xss.length xss/\Below w.heap.size w w'
def Mk (w w1 wr:World) (S:List Int):Prop:=Out (w.heap.size + 1) (w.heap.size + 2) w1 wr/\Arr wr (w.heap.size + 1) (VB (flagsOf S)) 140
set_option maxHeartbeats 2000000 in
theorem cycles_any (ps:List Int) (n:Nat) (w:World) (hl:ps.length = 24) (hb:Bij n ps) (hn:n<=24) :
  Calls sqp.prog 125 #[.agg (V ps).toArray,.int .i64 n] w (MGives (cso ps n n) w):=by
 obtain ⟨i0,hi0,hz0,hz1,hz2⟩:=info_parts infoII
 have HL:=Lib.hid hl;have HB:=Lib.hid hb;clear hl hb
 go_enter sqp.func125,sqp.ntmps125
 go_wp2
 go_loopw [6,12] (fun v i wr=>∃ k:Nat,k<=n/\i = .int .i64 k/\Cm w wr ps v (cso ps n k)) (fun _ i _=>n - (intOf i).toNat)
 case atStart =>
  exact ⟨0,Nat.zero_le _,rfl,(Arr.new w (V ps) _ rfl).alloc _,Arr.new _ (VB (flagsOf [])) _ (by simp),((Below.refl _ _).alloc (Nat.le_refl _) _).alloc (by simp) _,Mg.nil _ _ _ _⟩
 case round =>
  obtain ⟨k,hk,rfl,hm⟩:=hrel
  obtain ⟨wo,rfl⟩:∃ wo:World,wo = wr:=⟨_,rfl⟩
  obtain ⟨C,cc,rfl⟩:=hm.mg.form
  have CM:=Lib.hid hm;clear hm
  have hso:w.heap.size + 2<=wo.heap.size:=CM.out.met.lt
  by_cases hlt:k < n
  ·have CS:=Lib.hid (cso_cs HB.out k hk)
   by_cases hin:(k:Int) ∈ (cso ps n k).flatten
   ·have hfl:wo.cell? ⟨w.heap.size + 1,k,none⟩ = some (.bool true):=flags_cell CM.out.met (by omega) (by simpa using hin)
    have NX:Hid (cso ps n (k + 1) = cso ps n k):=Lib.hid (by rw [cso,if_pos hin])
    clear hin
    go_wp2
    go_roundw
    case rel=>exact ⟨k + 1,by omega,by go_num,by rw [NX.out];exact CM.out⟩
    case measure=>simp [intOf];omega
   ·have hfl:wo.cell? ⟨w.heap.size + 1,k,none⟩ = some (.bool false):=flags_cell CM.out.met (by omega) (by simpa using hin)
    have NX:Hid (cso ps n (k + 1) = cso ps n k ++ [cyc ps n k]):=Lib.hid (by rw [cso,if_neg hin])
    have FL:Hid ((cso ps n (k + 1)).flatten = (cso ps n k).flatten ++ cyc ps n k):=Lib.hid (by rw [NX.out];simp)
    have CY:=Lib.hid (cyc_way (f:=(k:Int)) HB.out (by omega) (by omega))
    have hcl:(cyc ps n (k:Int)).length<=n:=CY.out.inn.len
    clear hin
    go_wp2_with (refine wpList_load_row rfl 60 (.tmp 2) rfl w.heap.size rfl 60 (V ps).toArray (0,0) _ CM.out.p sqp.underlying60 rfl (size_V HL.out) ?_)
    refine (cycleFrom_any ps n k _ HL.out HB.out hn hlt).mono ?_
    rintro e w1 ⟨v1,rfl,ho1,b1⟩
    obtain ⟨C1,c1,rfl⟩:=own_form ho1
    have OW:=Lib.hid ho1;have B1:=Lib.hid b1
    have hs1:=b1.size
    have A1:=Lib.hid (CM.out.met.keep b1 (by omega))
    clear ho1 b1 hfl
    go_wp2
    go_loopw [23] (fun i wr=>∃ j:Nat,j<=(cyc ps n (k:Int)).length/\i = .int .i64 j/\Mk w w1 wr ((cso ps n k).flatten ++ (cyc ps n (k:Int)).take j)) (fun i _=>(cyc ps n (k:Int)).length - (intOf i).toNat)
    case atStart=>exact ⟨0,Nat.zero_le _,rfl,Out.refl _ _ _,by simpa using A1.out⟩
    case round =>
     obtain ⟨j,hj,rfl,hmk⟩:=hrel
     have MK:=Lib.hid hmk;clear hmk
     have RO:=Row.out (Row.of_own OW.out) (lo':=w.heap.size + 1) (hi':=w.heap.size + 2) MK.out.1 (.inr (by omega))
     by_cases hjl:j < (cyc ps n (k:Int)).length
     ·obtain ⟨z,hz,hzs,hzd⟩:=CY.out.inn.at_ hjl
      obtain ⟨go,oo,uo,rfl,hgo,hgo2,huo,hco,hfo⟩:=RO.at_ hjl
      rw [V_get hzs] at huo
      obtain rfl:=Option.some.inj huo
      obtain ⟨bz,hcz⟩:∃ b:Bool,wr.cell? ⟨w.heap.size + 1,z,none⟩ = some (.bool b):=⟨_,flags_cell MK.out.2 (by omega) rfl⟩
      have hfz:=MK.out.2.frozen z
      have HZ:=Lib.hid hzs
      clear hzs hzd huo hfo RO
      go_wp2
      go_roundw
      case rel =>
       refine ⟨j + 1,by omega,by go_num,MK.out.1.set_ (by omega) (by omega) _,?_⟩
       have h:=MK.out.2.set_ z (.bool true)
       rw [VB_set,flagsOf_set] at h
       rw [List.take_add_one,HZ.out,<-List.append_assoc]
       exact h
      case measure=>simp [intOf];omega
     ·obtain rfl:j = (cyc ps n (k:Int)).length:=by omega
      have CPOS:=CY.out.pos
      obtain ⟨hs,bl,own,hh,ne⟩:=CM.out.mg
      have hlx:hs.length = (cso ps n k).length:=by simpa using own.1
      obtain ⟨g,hg0,hrow⟩:=own_row (xs:=V (cyc ps n (k:Int))) (by rw [V_len];exact OW.out) (by rw [V_len];exact CPOS)
      rw [V_len] at hrow
      have HROW:=Lib.hid (mat.Row.block hrow (w':=wr) (MK.out.1.block g (by have:=hrow.2.1;omega) (by omega)) MK.out.1.size)
      have hs2:=MK.out.1.size
      have KEEP:Hid (∀ b,w.heap.size + 2<=b->b < wo.heap.size->wr.heap[b]? = wo.heap[b]?):=Lib.hid (fun b q1 q2=>(MK.out.1.block b (by omega) (by omega)).trans (B1.out.block b q2))
      have OWN:Hid (wr.ownsRow (w.heap.size + 2) 23 1 (.slice C (cso ps n k).length cc) (cso ps n k).length hs):=Lib.hid (by
       refine ⟨own.1,?_⟩
       rcases own.2 with h0 | ⟨g,cap,cur,q1,q2,q3,q4⟩
       ·exact .inl h0
       ·exact .inr ⟨g,cap,cur,q1,q2,(KEEP.out g q2 (Array.getElem?_eq_some_iff.1 q3).1).trans q3,q4⟩)
      have HHH:=Lib.hid hh;have NE:=Lib.hid ne
      have VLT:Hid (∀ b,(Value.slice C (cso ps n k).length cc).ownBlock = some b->b < wo.heap.size):=Lib.hid (fun b e=>(own.lt b e).2)
      have hcle:(cso ps n k).length<=k:=CS.out.len
      clear own hh ne hrow RO hlx
      go_wp2_with (at_builtin;refine wpList_append_one2 wr _ _ rfl _ _ 162 rfl (w.heap.size + 2) 23 i0 _ 24 1 sqp.underlying162 hi0 hz0 hz1 rfl hz2 rfl _ _ _ rfl OWN.out rfl rfl ?c4 (by decide) (by omega) ?_)
      case c4=>omega
      intro v' w' ho hg hb
      have HN:Hid (Mg w' (w.heap.size + 2) (w.heap.size + 2) (w.heap.size + 1) v' (cso ps n (k + 1))):=Lib.hid (by
       rw [NX.out]
       exact Mg.push HHH.out NE.out (by omega) KEEP.out hso (by omega) HROW.out hg0 VLT.out rfl ho hg hb)
      have HP:Hid (Arr w' w.heap.size (V ps) 60):=Lib.hid ((hg.block _ (by omega) (fun e=>by have:=(OWN.out.lt _ e.symm).1;omega)).trans ((MK.out.1.block _ (by omega) (by omega)).trans (CM.out.p.keep B1.out (by omega))))
      have HM:Hid (Arr w' (w.heap.size + 1) (VB (flagsOf (cso ps n (k + 1)).flatten)) 140):=Lib.hid (by
       have:=MK.out.2
       rw [List.take_of_length_le (Nat.le_refl _),<-FL.out] at this
       exact (hg.block _ (by omega) (fun e=>by have:=(OWN.out.lt _ e.symm).1;omega)).trans this)
      have HBL:Hid (Below w.heap.size w w'):=Lib.hid (((CM.out.below.trans (B1.out.mono (by omega))).trans (MK.out.1.below (by omega) (by omega))).trans ((Below.refl _ _).grown hg (by omega) (fun b hb=>by have:=(OWN.out.lt b hb).1;omega)))
      clear ho hg hb MK OWN HHH KEEP CM
      go_wp2
      go_roundw
      case rel=>exact ⟨k + 1,by omega,by go_num,HP.out,HM.out,HBL.out,HN.out⟩
      case measure=>simp [intOf];omega
  ·obtain rfl:k = n:=by omega
   go_wp2
   go_ret
   exact ⟨C,cc,rfl,CM.out.mg.mat (by omega) (by omega),CM.out.below⟩
end Go.Proofs.Ytgcnemkhppkkcaa.fns

namespace Go.Proofs.Ytgcnemkhppkkcaa.fns
open Go.ChangeShapes Go.WideShapes Go.ChangeAt Go.RowKit
open mem ints arr pm permOk permOf inv mat
set_option linter.unusedVariables false
set_option maxRecDepth 100000
def Sw (n:Nat) (ps:List Int) (f x:Int) (acc S:List Int):Prop:=(acc = []/\x = f)\/(∃ m,Cw n ps f x acc m)/\(∀ y ∈ acc,¬ y ∈ S)
end Go.Proofs.Ytgcnemkhppkkcaa.fns

namespace Go.Proofs.Ytgcnemkhppkkcaa.gl
open Go.ChangeShapes Go.WideShapes Go.ChangeAt Go.RowKit
open mem ints arr pm permOk permOf inv fns sf mat
set_option linter.unusedVariables false
set_option maxRecDepth 100000
structure Sg (w w1 wr:World) (v:Value) (l:List Int):Prop where
 own:wr.ownsRow (w.heap.size + 1) 3 1 v l.length (V l)
 out:Out (w.heap.size + 1) (w.heap.size + 2) w1 wr
 at_:∀ b,v.ownBlock = some b->b = w.heap.size + 1\/w1.heap.size<=b
theorem Sg.next {w w1 wr w':World} {v v':Value} {l:List Int} {z:Int} {n:Nat} (h:Sg w w1 wr v l) (ho:w'.ownsRow (w.heap.size + 1) 3 1 v' (n + 1) (V l ++ [.int .i64 z])) (hn:n = l.length)
  (hg:wr.grownBy w' v.ownBlock) (hb:v'.ownBlock = v.ownBlock\/∃ k,v'.ownBlock = some k/\wr.heap.size + 1<=k):Sg w w1 w' v' (l ++ [z]):=by
 subst hn
 have e:V (l ++ [z]) = V l ++ [.int .i64 z]:=by simp [V]
 have hs:=h.out.size
 refine ⟨by rw [e];simpa using ho,⟨hg.os.trans h.out.os,hg.tape.trans h.out.tape,hg.output.trans h.out.output,Nat.le_trans hs hg.size,fun k hk hne=>?_⟩,fun b hq=>?_⟩
 ·refine (hg.block k (by omega) (fun e=>?_)).trans (h.out.block k hk hne)
  have:=h.at_ k e.symm
  omega
 ·rcases hb with q | ⟨k,q,hk⟩
  ·exact h.at_ b (by rw [<-q];exact hq)
  ·rw [q] at hq;injection hq with hq;omega
end Go.Proofs.Ytgcnemkhppkkcaa.gl

namespace Go.Proofs.Ytgcnemkhppkkcaa.lp
open Go.ChangeShapes Go.WideShapes Go.ChangeAt Go.RowKit
open mem ints arr pm sf gl
set_option linter.unusedVariables false
set_option maxRecDepth 100000
section
variable {P:Program}
theorem run_loadVar_part (w:World) (g off:Nat) (ty:TypeId) (cs:List Value) (d:TypeDesc) (hc:∀ (j:Nat) v,cs[j]? = some v->w.cell? ⟨g,off + j,none⟩ = some v)
  (hu:P.underlying ty = some d) (hd:(match d with | .struct _ | .array _ _=>true | _=>false) = true) (hi:(P.info? ty).map (·.size) = some cs.length) :
  (loadVar ty ⟨g,off,none⟩).run P w = .ok (.agg cs.toArray) w:=by
 have hl:(loadCells ⟨g,off,none⟩ cs.length).run P w = .ok cs.toArray w :=
  run_loadCells_list (P:=P) w ⟨g,off,none⟩ cs (fun j v hv=>by
   have hadd:(⟨g,off,none⟩:Addr).add j = ⟨g,off + j,none⟩:=by unfold Addr.add;split <;> simp_all
   rw [hadd]
   exact hc j v hv)
 cases hq:P.info? ty with
 | none=>simp [hq] at hi
 | some i =>
  have hs:i.size = cs.length:=by simpa [hq] using hi
  have hagg:(isAgg ty).run P w = .ok true w:=by
   unfold isAgg
   rw [Sem.run_bind,run_underlying hu w]
   cases d <;> simp_all
  simp [loadVar,Sem.run_bind,hagg,sizeOf,typeInfo,hq,hs,hl]
theorem wpList_load_part {ops:Array Oper} {rest:List Oper} {o:Oper} {a:Act} {w:World} {Q:Exit->Act->World->Prop} (hgd:o.guard = none) (ty:TypeId) (x:Operand) (ho:o.op = .load ty x)
  (g off:Nat) (hx:a.eval x = .pointer (some ⟨g,off,none⟩)) (cs:List Value) (d:TypeDesc) (hc:∀ (j:Nat) v,cs[j]? = some v->w.cell? ⟨g,off + j,none⟩ = some v)
  (hu:P.underlying ty = some d) (hd:(match d with | .struct _ | .array _ _=>true | _=>false) = true) (hi:(P.info? ty).map (·.size) = some cs.length)
  (h:wpList P ops Q rest (a.put o.dst (.agg cs.toArray)) w):wpList P ops Q (o :: rest) a w:=by
 refine wpList_plain hgd fun _ hK=>?_
 unfold Oper.wp execOp
 simp only [ho,hx,Instr.loadAt,Instr.sureAddr,Sem.run_bind,Sem.run_pure,Result.andThen_ok,run_loadVar_part w g off ty cs d hc hu hd hi]
 exact hK _ _ h
end
end Go.Proofs.Ytgcnemkhppkkcaa.lp

namespace Go.Proofs.Ytgcnemkhppkkcaa.cy
open Go.ChangeShapes Go.WideShapes Go.ChangeAt Go.RowKit
open mem ints arr pm permOk permOf inv fns sf mat gl Go.Proofs.Ytgcnemkhppkkcaa.lp
set_option linter.unusedVariables false
set_option maxRecDepth 100000
theorem cycF_gl {r u:List Int} {n:Nat} (h:transB r u = true) (hn:r.length = n):cycF r = cso (ext r) n n:=by
 have s:=transB_iff.1 h
 rw [<-hn,cycF_ext s.r,cycF,s.r.b,if_pos rfl]
end Go.Proofs.Ytgcnemkhppkkcaa.cy
