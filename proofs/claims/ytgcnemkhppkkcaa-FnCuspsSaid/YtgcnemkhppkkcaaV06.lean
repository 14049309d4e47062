import Derived.Test.YtgcnemkhppkkcaaV05
import Derived.Test.YtgcnemkhppkkcaaV04
import Derived.RegionTactic
import Derived.BigRegion
import Derived.Deep.RegionHeld3
import Derived.Laws.OwnMore
namespace Go.Proofs.Ytgcnemkhppkkcaa.pm
open arr inv permOf
set_option linter.unusedVariables false
set_option maxRecDepth 100000
def cy (ps:List Int) (f:Int):Nat->Int->List Int->List Int
 | 0,_,acc=>acc
 | m + 1,x,acc=>if x = f then acc else cy ps f m (ps.getD x.toNat 0) (acc ++ [x])
def cyc (ps:List Int) (n:Nat) (f:Int):List Int:=cy ps f n (ps.getD f.toNat 0) [f]
structure Bij (n:Nat) (ps:List Int):Prop where
 maps:Maps n ps
 inj:∀ i j:Nat,i < n->j < n->ps.getD i 0 = ps.getD j 0->i = j
theorem Ok.bij {xs:List Int} (h:Ok xs):Bij xs.length xs:=⟨h.maps,h.inj⟩
theorem Ok.bijExt {xs:List Int} (h:Ok xs):Bij xs.length (ext xs):=by
 have hl:=h.len
 have e:∀ i,i < xs.length->(ext xs).getD i 0 = xs.getD i 0:=fun i hi=>by rw [ext_at (by omega),if_pos hi]
 refine ⟨fun i hi=>by rw [e i hi];exact h.maps i hi,fun i j hi hj q=>?_⟩
 rw [e i hi,e j hj] at q
 exact h.inj i j hi hj q
structure Way (n:Nat) (ps:List Int) (f x:Int) (acc:List Int):Prop where
 head:acc.getD 0 0 = f
 pos:0 < acc.length
 step:∀ i,i + 1 < acc.length->acc.getD (i + 1) 0 = ps.getD (acc.getD i 0).toNat 0
 last:x = ps.getD (acc.getD (acc.length - 1) 0).toNat 0
 inn:In n acc
theorem getD_mem {l:List Int} {i:Nat} (h:i < l.length):l.getD i 0 ∈ l:=by
 simp [List.getD,List.getElem?_eq_getElem h]
theorem mem_getD {l:List Int} {x:Int} (h:x ∈ l):∃ i,i < l.length/\l.getD i 0 = x:=by
 obtain ⟨i,hi,e⟩:=List.getElem_of_mem h
 exact ⟨i,hi,by simp [List.getD,List.getElem?_eq_getElem hi,e]⟩
theorem nodup_getD {l:List Int} (h:l.Nodup) {i j:Nat} (hi:i < l.length) (hj:j < l.length) (e:l.getD i 0 = l.getD j 0):i = j:=by
 simp only [List.getD,List.getElem?_eq_getElem hi,List.getElem?_eq_getElem hj,Option.getD_some] at e
 have hp:=List.pairwise_iff_getElem.1 h
 rcases Nat.lt_trichotomy i j with q | q | q
 ·exact absurd e (hp i j hi hj q)
 ·exact q
 ·exact absurd e.symm (hp j i hj hi q)
theorem getD_snoc {l:List Int} {x:Int} {i:Nat}:(l ++ [x]).getD i 0 = if i < l.length then l.getD i 0 else if i = l.length then x else 0:=by
 simp only [List.getD,List.getElem?_append]
 split
 ·rfl
 ·split
  ·rename_i e;subst e;simp
  ·rw [List.getElem?_eq_none (by simp;omega)];rfl
theorem Way.x_in {n:Nat} {ps acc:List Int} {f x:Int} (h:Way n ps f x acc) (hb:Bij n ps):0<=x/\x < n:=by
 have hm:=getD_mem (l:=acc) (i:=acc.length - 1) (by have:=h.pos;omega)
 have h1:=h.inn.lo _ hm;have h2:=h.inn.hi _ hm
 rw [h.last]
 exact hb.maps _ (by omega)
theorem Way.fresh {n:Nat} {ps acc:List Int} {f x:Int} (h:Way n ps f x acc) (hb:Bij n ps) (hx:x ≠ f):¬ x ∈ acc:=by
 intro hm
 obtain ⟨i,hi,e⟩:=mem_getD hm
 have hp:=h.pos
 cases i with
 | zero=>exact hx (by rw [<-e,h.head])
 | succ i =>
  have m1:=getD_mem (l:=acc) (i:=i) (by omega)
  have m2:=getD_mem (l:=acc) (i:=acc.length - 1) (by omega)
  have a1:=h.inn.lo _ m1;have a2:=h.inn.hi _ m1;have b1:=h.inn.lo _ m2;have b2:=h.inn.hi _ m2
  have q:ps.getD (acc.getD i 0).toNat 0 = ps.getD (acc.getD (acc.length - 1) 0).toNat 0:=by rw [<-h.step i hi,e,h.last]
  have:=hb.inj _ _ (by omega) (by omega) q
  have:=nodup_getD h.inn.nd (i:=i) (j:=acc.length - 1) (by omega) (by omega) (by omega)
  omega
theorem Way.next {n:Nat} {ps acc:List Int} {f x:Int} (h:Way n ps f x acc) (hb:Bij n ps) (hx:x ≠ f):Way n ps f (ps.getD x.toNat 0) (acc ++ [x]):=by
 have hp:=h.pos
 have xi:=h.x_in hb
 have hf:=h.fresh hb hx
 refine ⟨by rw [getD_snoc,if_pos hp];exact h.head,by simp,fun i hi=>?_,?_,?_⟩
 ·simp at hi
  rw [getD_snoc,getD_snoc,if_pos (by omega:i < acc.length)]
  by_cases e:i + 1 < acc.length
  ·rw [if_pos e];exact h.step i e
  ·rw [if_neg e,if_pos (by omega)]
   have:i = acc.length - 1:=by omega
   rw [this];exact h.last
 ·have:(acc ++ [x]).length - 1 = acc.length:=by simp
  rw [this,getD_snoc,if_neg (by omega),if_pos rfl]
 ·have:=h.inn.add xi.1 xi.2
  unfold add1 at this
  rw [if_neg hf] at this
  exact this
theorem Way.start {n:Nat} {ps:List Int} {f:Int} (h0:0<=f) (h1:f < n):Way n ps f (ps.getD f.toNat 0) [f] :=
 ⟨rfl,by simp,fun i hi=>by simp at hi,rfl,⟨by simp,fun y hy=>by simp at hy;omega,fun y hy=>by simp at hy;omega⟩⟩
structure Cw (n:Nat) (ps:List Int) (f x:Int) (acc:List Int) (m:Nat):Prop where
 way:Way n ps f x acc
 len:acc.length + m = n + 1
 res:cy ps f m x acc = cyc ps n f
theorem Cw.start {n:Nat} {ps:List Int} {f:Int} (h0:0<=f) (h1:f < n):Cw n ps f (ps.getD f.toNat 0) [f] n:=⟨Way.start h0 h1,by simp;omega,rfl⟩
theorem Cw.pos {n m:Nat} {ps acc:List Int} {f x:Int} (h:Cw n ps f x acc m):0 < m:=by
 have:=h.way.inn.len;have:=h.len;omega
theorem Cw.next {n m:Nat} {ps acc:List Int} {f x:Int} (h:Cw n ps f x acc m) (hb:Bij n ps) (hx:x ≠ f):Cw n ps f (ps.getD x.toNat 0) (acc ++ [x]) (m - 1):=by
 have hp:=h.pos
 obtain ⟨k,rfl⟩:∃ k,m = k + 1:=⟨m - 1,by omega⟩
 refine ⟨h.way.next hb hx,by have:=h.len;simp;omega,?_⟩
 have:=h.res
 rw [cy,if_neg hx] at this
 exact this
theorem Cw.done {n m:Nat} {ps acc:List Int} {f:Int} (h:Cw n ps f f acc m):acc = cyc ps n f:=by
 have hp:=h.pos
 obtain ⟨k,rfl⟩:∃ k,m = k + 1:=⟨m - 1,by omega⟩
 have:=h.res
 rw [cy,if_pos rfl] at this
 exact this
theorem Cw.way_of {n:Nat} {ps:List Int} {f:Int} (hb:Bij n ps):∀ (m:Nat) (x:Int) (acc:List Int),Cw n ps f x acc m->Way n ps f f (cyc ps n f):=by
 intro m
 induction m with
 | zero=>intro x acc h;exact absurd h.pos (by omega)
 | succ m ih =>
  intro x acc h
  by_cases e:x = f
  ·subst e;rw [<-h.done];exact h.way
  ·exact ih _ _ (h.next hb e)
theorem cyc_way {n:Nat} {ps:List Int} {f:Int} (hb:Bij n ps) (h0:0<=f) (h1:f < n):Way n ps f f (cyc ps n f):=Cw.way_of hb n _ _ (Cw.start h0 h1)
theorem cyc_back {n:Nat} {ps:List Int} {f:Int} (hb:Bij n ps) (h0:0<=f) (h1:f < n) {y:Nat} (hy:y < n) (h:ps.getD y 0 ∈ cyc ps n f):(y:Int) ∈ cyc ps n f:=by
 have hw:=cyc_way hb h0 h1
 have hp:=hw.pos
 obtain ⟨i,hi,e⟩:=mem_getD h
 have key:∀ j,j < (cyc ps n f).length->ps.getD ((cyc ps n f).getD j 0).toNat 0 = ps.getD y 0->(y:Int) ∈ cyc ps n f:=by
  intro j hj q
  have m1:=getD_mem hj
  have a1:=hw.inn.lo _ m1;have a2:=hw.inn.hi _ m1
  have:=hb.inj _ _ (by omega) hy q
  have e2:(cyc ps n f).getD j 0 = (y:Int):=by omega
  rw [<-e2];exact m1
 cases i with
 | zero=>exact key ((cyc ps n f).length - 1) (by omega) (by rw [<-hw.last,<-e,hw.head])
 | succ i=>exact key i (by omega) (by rw [<-hw.step i hi,e])
theorem cyc_congr {n:Nat} {ps ps':List Int} (hb:Bij n ps) (h1:∀ i,i < n->ps'.getD i 0 = ps.getD i 0) {f:Int} (h0:0<=f) (hf:f < n):cyc ps' n f = cyc ps n f:=by
 have key:∀ (m:Nat) (x:Int) (acc:List Int),0<=x->x < n->cy ps' f m x acc = cy ps f m x acc:=by
  intro m
  induction m with
  | zero=>intros;rfl
  | succ m ih =>
   intro x acc x0 x1
   rw [cy,cy]
   split
   ·rfl
   ·rw [h1 _ (by omega)]
    have:=hb.maps x.toNat (by omega)
    exact ih _ _ this.1 this.2
 unfold cyc
 rw [h1 _ (by omega)]
 have:=hb.maps f.toNat (by omega)
 exact key _ _ _ this.1 this.2
def cso (ps:List Int) (n:Nat):Nat->List (List Int)
 | 0=>[]
 | k + 1=>if (k:Int) ∈ (cso ps n k).flatten then cso ps n k else cso ps n k ++ [cyc ps n (k:Int)]
structure Cs (n:Nat) (ps:List Int) (k:Nat) (out:List (List Int)):Prop where
 inn:In n out.flatten
 back:∀ y:Nat,y < n->ps.getD y 0 ∈ out.flatten->(y:Int) ∈ out.flatten
 all:∀ i:Nat,i < k->(i:Int) ∈ out.flatten
 len:out.length<=k
theorem cso_cs {n:Nat} {ps:List Int} (hb:Bij n ps) (k:Nat) (hk:k<=n):Cs n ps k (cso ps n k):=by
 induction k with
 | zero=>exact ⟨⟨by simp [cso],fun x hx=>by simp [cso] at hx,fun x hx=>by simp [cso] at hx⟩,fun y _ h=>by simp [cso] at h,fun i hi=>by omega,Nat.le_refl _⟩
 | succ k ih =>
  have h:=ih (by omega)
  rw [cso]
  split
  ·rename_i hm
   refine ⟨h.inn,h.back,fun i hi=>?_,by have:=h.len;omega⟩
   by_cases e:i = k
   ·subst e;exact hm
   ·exact h.all i (by omega)
  ·rename_i hm
   have hw:=cyc_way (f:=(k:Int)) hb (by omega) (by omega)
   have hf:(cso ps n k ++ [cyc ps n (k:Int)]).flatten = (cso ps n k).flatten ++ cyc ps n (k:Int):=by simp
   have dis:∀ i,i < (cyc ps n (k:Int)).length->¬ (cyc ps n (k:Int)).getD i 0 ∈ (cso ps n k).flatten:=by
    intro i
    induction i with
    | zero=>intro _ q;rw [hw.head] at q;exact hm q
    | succ i ihi =>
     intro hi q
     rw [hw.step i hi] at q
     have m1:=getD_mem (l:=cyc ps n (k:Int)) (i:=i) (by omega)
     have a1:=hw.inn.lo _ m1;have a2:=hw.inn.hi _ m1
     have:=h.back _ (by omega) q
     rw [Int.toNat_of_nonneg a1] at this
     exact ihi (by omega) this
   have cm:(k:Int) ∈ cyc ps n (k:Int):=by
    have:=getD_mem (l:=cyc ps n (k:Int)) (i:=0) hw.pos
    rw [hw.head] at this;exact this
   refine ⟨⟨?_,fun x hx=>?_,fun x hx=>?_⟩,fun y hy q=>?_,fun i hi=>?_,by have:=h.len;simp;omega⟩
   ·rw [hf,List.nodup_append]
    refine ⟨h.inn.nd,hw.inn.nd,fun a ha b hb' e=>?_⟩
    obtain ⟨i,hi,e2⟩:=mem_getD hb'
    exact dis i hi (by rw [e2,<-e];exact ha)
   ·rw [hf] at hx
    rcases List.mem_append.1 hx with hx | hx
    ·exact h.inn.lo x hx
    ·exact hw.inn.lo x hx
   ·rw [hf] at hx
    rcases List.mem_append.1 hx with hx | hx
    ·exact h.inn.hi x hx
    ·exact hw.inn.hi x hx
   ·rw [hf] at q ⊢
    rcases List.mem_append.1 q with q | q
    ·exact List.mem_append.2 (.inl (h.back y hy q))
    ·exact List.mem_append.2 (.inr (cyc_back hb (by omega) (by omega) hy q))
   ·rw [hf]
    by_cases e:i = k
    ·subst e;exact List.mem_append.2 (.inr cm)
    ·exact List.mem_append.2 (.inl (h.all i (by omega)))
theorem cso_congr {n:Nat} {ps ps':List Int} (hb:Bij n ps) (h1:∀ i,i < n->ps'.getD i 0 = ps.getD i 0) (k:Nat) (hk:k<=n):cso ps' n k = cso ps n k:=by
 induction k with
 | zero=>rfl
 | succ k ih=>rw [cso,cso,ih (by omega),cyc_congr hb h1 (by omega) (by omega)]
def cycF (xs:List Int):List (List Int):=if okB xs then cso xs xs.length xs.length else []
theorem flatten_len (l:List (List Int)):l.flatten.length = (l.map List.length).sum:=by simp [List.length_flatten]
theorem cycF_ext {xs:List Int} (h:Ok xs):cso (ext xs) xs.length xs.length = cso xs xs.length xs.length:=by
 have hl:=h.len
 exact cso_congr h.bij (fun i hi=>by rw [ext_at (by omega),if_pos hi]) _ (Nat.le_refl _)
end Go.Proofs.Ytgcnemkhppkkcaa.pm

namespace Go.Proofs.Ytgcnemkhppkkcaa.pm
set_option linter.unusedVariables false
set_option maxRecDepth 100000
def ins (x:Int) (l:List Int) (k:Nat):List Int:=l.take k ++ x :: l.drop k
def posD (x:Int) (l:List Int):Nat->Nat
 | 0=>0
 | k + 1=>if l.getD k 0 < x then posD x l k else k + 1
def insD (x:Int) (l:List Int):List Int:=ins x l (posD x l l.length)
def sortD (l:List Int):List Int:=l.foldl (fun acc x=>insD x acc) []
theorem posD_le (x:Int) (l:List Int) (k:Nat):posD x l k<=k:=by
 induction k with
 | zero=>exact Nat.le_refl _
 | succ k ih=>rw [posD];split <;> omega
theorem posD_lt (x:Int) (l:List Int) (k:Nat):∀ j,posD x l k<=j->j < k->l.getD j 0 < x:=by
 induction k with
 | zero=>intro j _ h;omega
 | succ k ih =>
  intro j h1 h2
  rw [posD] at h1
  split at h1
  ·by_cases e:j = k
   ·subst e;assumption
   ·exact ih j h1 (by omega)
  ·omega
theorem posD_ge (x:Int) (l:List Int) (k:Nat):0 < posD x l k->x<=l.getD (posD x l k - 1) 0:=by
 induction k with
 | zero=>intro h;simp [posD] at h
 | succ k ih =>
  rw [posD]
  split
  ·exact ih
  ·intro _;simp only [Nat.add_sub_cancel];omega
theorem insD_perm (x:Int) (l:List Int):(insD x l).Perm (x :: l):=by
 unfold insD ins
 have:=List.perm_middle (a:=x) (l₁:=l.take (posD x l l.length)) (l₂:=l.drop (posD x l l.length))
 rw [List.take_append_drop] at this
 exact this
theorem foldD_perm (l:List Int):∀ acc,(l.foldl (fun acc x=>insD x acc) acc).Perm (acc ++ l):=by
 induction l with
 | nil=>intro acc;simp
 | cons a t ih =>
  intro acc
  simp only [List.foldl_cons]
  refine (ih _).trans ?_
  refine ((insD_perm a acc).append_right t).trans ?_
  exact List.perm_middle.symm
theorem sortD_perm (l:List Int):(sortD l).Perm l:=by have:=foldD_perm l [];simpa [sortD] using this
theorem sortD_len (l:List Int):(sortD l).length = l.length:=(sortD_perm l).length_eq
def Desc (l:List Int):Prop:=l.Pairwise (fun a b=>b<=a)
theorem Desc.at_ {l:List Int} (h:Desc l) {i j:Nat} (hij:i<=j) (hj:j < l.length):l.getD j 0<=l.getD i 0:=by
 have hp:=List.pairwise_iff_getElem.1 h
 simp only [List.getD,List.getElem?_eq_getElem hj,List.getElem?_eq_getElem (show i < l.length by omega),Option.getD_some]
 by_cases e:i = j
 ·subst e;omega
 ·exact hp i j (by omega) hj (by omega)
theorem insD_desc {x:Int} {l:List Int} (h:Desc l):Desc (insD x l):=by
 have hle:=posD_le x l l.length
 have hlt:=posD_lt x l l.length
 have hge:=posD_ge x l l.length
 unfold insD ins
 generalize posD x l l.length = k at *
 unfold Desc
 rw [List.pairwise_append]
 have htd:Desc (l.take k ++ l.drop k):=by rw [List.take_append_drop];exact h
 have htd':=List.pairwise_append.1 htd
 have gt:∀ a ∈ l.take k,x<=a:=by
  intro a ha
  obtain ⟨i,hi,e⟩:=List.getElem_of_mem ha
  simp at hi e
  have:=h.at_ (i:=i) (j:=k - 1) (by omega) (by omega)
  have h2:=hge (by omega)
  have:l.getD i 0 = a:=by simp [List.getD,List.getElem?_eq_getElem (show i < l.length by omega),e]
  omega
 have lt:∀ b ∈ l.drop k,b < x:=by
  intro b hb
  obtain ⟨i,hi,e⟩:=List.getElem_of_mem hb
  simp at hi e
  have:=hlt (k + i) (by omega) (by omega)
  have h3:l.getD (k + i) 0 = b:=by simp [List.getD,List.getElem?_eq_getElem (show k + i < l.length by omega),e]
  omega
 refine ⟨htd'.1,List.pairwise_cons.2 ⟨fun b hb=>?_,htd'.2.1⟩,fun a ha b hb=>?_⟩
 ·have:=lt b hb;omega
 ·have h1:=gt a ha
  rcases List.mem_cons.1 hb with rfl | hb
  ·exact h1
  ·have:=lt b hb;omega
theorem foldD_desc (l:List Int):∀ acc,Desc acc->Desc (l.foldl (fun acc x=>insD x acc) acc):=by
 induction l with
 | nil=>intro acc h;exact h
 | cons a t ih=>intro acc h;exact ih _ (insD_desc h)
theorem sortD_desc (l:List Int):Desc (sortD l):=foldD_desc l [] List.Pairwise.nil
end Go.Proofs.Ytgcnemkhppkkcaa.pm

namespace Go.Proofs.Ytgcnemkhppkkcaa.pm
open arr inv permOf
set_option linter.unusedVariables false
set_option maxRecDepth 100000
def it (ps:List Int) (f:Int):Nat->Int
 | 0=>f
 | m + 1=>ps.getD (it ps f m).toNat 0
theorem it_in {n:Nat} {ps:List Int} (hb:Bij n ps) {f:Int} (h0:0<=f) (h1:f < n) (m:Nat):0<=it ps f m/\it ps f m < n:=by
 induction m with
 | zero=>exact ⟨h0,h1⟩
 | succ m ih=>exact hb.maps _ (by omega)
theorem it_add (ps:List Int) (f:Int) (a b:Nat):it ps (it ps f a) b = it ps f (a + b):=by
 induction b with
 | zero=>rfl
 | succ b ih=>show ps.getD (it ps (it ps f a) b).toNat 0 = ps.getD (it ps f (a + b)).toNat 0;rw [ih]
theorem it_inj {n:Nat} {ps:List Int} (hb:Bij n ps) {f g:Int} (f0:0<=f) (f1:f < n) (g0:0<=g) (g1:g < n) (m:Nat) (h:it ps f m = it ps g m):f = g:=by
 induction m with
 | zero=>exact h
 | succ m ih =>
  have a:=it_in hb f0 f1 m;have b:=it_in hb g0 g1 m
  have:=hb.inj _ _ (by omega) (by omega) h
  exact ih (by omega)
theorem way_it {n:Nat} {ps acc:List Int} {f x:Int} (h:Way n ps f x acc):∀ i,i < acc.length->acc.getD i 0 = it ps f i:=by
 intro i
 induction i with
 | zero=>intro _;exact h.head
 | succ i ih=>intro hi;rw [h.step i hi,ih (by omega)];rfl
theorem way_last {n:Nat} {ps acc:List Int} {f x:Int} (h:Way n ps f x acc):x = it ps f acc.length:=by
 have hp:=h.pos
 rw [h.last,way_it h _ (by omega)]
 have:acc.length = (acc.length - 1) + 1:=by omega
 rw [this];rfl
theorem per_same {n:Nat} {ps:List Int} (hb:Bij n ps) {f:Int} (f0:0<=f) (f1:f < n) {y:Int} (hy:y ∈ cyc ps n f):(cyc ps n y).length = (cyc ps n f).length:=by
 have hw:=cyc_way hb f0 f1
 obtain ⟨j,hj,e⟩:=mem_getD hy
 rw [way_it hw j hj] at e
 have y0:=hw.inn.lo y hy;have y1:=hw.inn.hi y hy
 have hv:=cyc_way (f:=y) hb y0 y1
 have lf:=way_last hw;have ly:=way_last hv
 have pf:=hw.pos;have py:=hv.pos
 have A:∀ {f y:Int},0<=f->f < n->0<=y->y < n->(j:Nat)->it ps f j = y->Way n ps f f (cyc ps n f)->Way n ps y y (cyc ps n y)->¬ (cyc ps n y).length < (cyc ps n f).length:=by
  intro f y f0 f1 y0 y1 j e hw hv hlt
  have ly:=way_last hv
  have py:=hv.pos
  have e1:it ps f ((cyc ps n y).length) = f:=by
   have q:it ps (it ps f (cyc ps n y).length) j = it ps f j:=by rw [it_add,Nat.add_comm,<-it_add,e,<-ly]
   have a:=it_in hb f0 f1 (cyc ps n y).length
   exact it_inj hb a.1 a.2 f0 f1 j q
  have:=nodup_getD hw.inn.nd (i:=(cyc ps n y).length) (j:=0) hlt (by omega) (by rw [way_it hw _ hlt,e1,hw.head])
  omega
 have h1:=A f0 f1 y0 y1 j e hw hv
 have ej:j + ((cyc ps n f).length - j) = (cyc ps n f).length:=by omega
 have e2:it ps y ((cyc ps n f).length - j) = f:=by rw [<-e,it_add,ej,<-lf]
 have h2:=A y0 y1 f0 f1 _ e2 hv hw
 omega
def rng (n:Nat):List Int:=(List.range n).map fun (i:Nat)=>(i:Int)
theorem mem_rng {n:Nat} {x:Int}:x ∈ rng n ↔ 0<=x/\x < n:=by
 unfold rng
 rw [List.mem_map]
 constructor
 ·rintro ⟨i,hi,rfl⟩;simp at hi;omega
 ·intro h;exact ⟨x.toNat,by simp;omega,by omega⟩
theorem rng_nodup (n:Nat):(rng n).Nodup:=by
 unfold rng List.Nodup
 rw [List.pairwise_map]
 exact List.Pairwise.imp (fun h=>by omega) (List.pairwise_lt_range (n:=n))
theorem perm_of_mem {l m:List Int} (hl:l.Nodup) (hm:m.Nodup) (h:∀ x,x ∈ l ↔ x ∈ m):l.Perm m:=by
 rw [List.perm_iff_count]
 intro a
 rw [List.Nodup.count hl,List.Nodup.count hm]
 simp only [h a]
theorem cso_rng {n:Nat} {ps:List Int} (hb:Bij n ps):(cso ps n n).flatten.Perm (rng n):=by
 have hc:=cso_cs hb n (Nat.le_refl _)
 refine perm_of_mem hc.inn.nd (rng_nodup n) fun x=>?_
 rw [mem_rng]
 constructor
 ·intro h;exact ⟨hc.inn.lo x h,hc.inn.hi x h⟩
 ·intro h
  have:=hc.all x.toNat (by omega)
  rw [Int.toNat_of_nonneg h.1] at this
  exact this
theorem cso_len {n:Nat} {ps:List Int} (hb:Bij n ps):((cso ps n n).map List.length).sum = n:=by
 rw [<-flatten_len,(cso_rng hb).length_eq];simp [rng]
theorem cso_cyc {n:Nat} {ps:List Int} (k:Nat) (hk:k<=n):∀ c ∈ cso ps n k,∃ i:Nat,i < n/\c = cyc ps n (i:Int):=by
 induction k with
 | zero=>intro c hc;simp [cso] at hc
 | succ k ih =>
  intro c hc
  rw [cso] at hc
  split at hc
  ·exact ih (by omega) c hc
  ·rcases List.mem_append.1 hc with hc | hc
   ·exact ih (by omega) c hc
   ·simp at hc;exact ⟨k,by omega,hc⟩
structure Ren (n:Nat) (ps qs ns:List Int):Prop where
 p:Bij n ps
 q:Bij n qs
 s:Bij n ns
 eq:∀ i,i < n->qs.getD (ns.getD i 0).toNat 0 = ns.getD (ps.getD i 0).toNat 0
end Go.Proofs.Ytgcnemkhppkkcaa.pm

namespace Go.Proofs.Ytgcnemkhppkkcaa.pm
open arr inv permOf
set_option linter.unusedVariables false
set_option maxRecDepth 100000
def Inv (xs:List Int):List Int:=invTo xs.length xs xs.length
theorem Inv_len (xs:List Int):(Inv xs).length = xs.length:=invTo_len _ _ _
theorem Inv_at {xs:List Int} (h:Ok xs) {k:Nat} (hk:k < xs.length):(Inv xs).getD (xs.getD k 0).toNat 0 = (k:Int):=inv_at h hk
theorem at_Inv {xs:List Int} (h:Ok xs) {i:Nat} (hi:i < xs.length):∃ k,k < xs.length/\(Inv xs).getD i 0 = (k:Int)/\xs.getD k 0 = (i:Int):=by
 obtain ⟨k,hk,e⟩:=h.onto hi
 refine ⟨k,hk,?_,e⟩
 have:=Inv_at h hk
 rw [e] at this
 simpa using this
theorem Inv_ok {xs:List Int} (h:Ok xs):Ok (Inv xs):=by
 refine ⟨by rw [Inv_len];exact h.len,fun i hi=>?_,fun i hi=>?_,fun i j hi hj e=>?_⟩
 ·rw [Inv_len] at hi;obtain ⟨k,_,q,_⟩:=at_Inv h hi;omega
 ·rw [Inv_len] at hi ⊢;obtain ⟨k,_,q,_⟩:=at_Inv h hi;omega
 ·rw [Inv_len] at hi hj
  obtain ⟨k,_,q,r⟩:=at_Inv h hi
  obtain ⟨k',_,q',r'⟩:=at_Inv h hj
  have:k = k':=by omega
  subst this
  omega
theorem thn_len (xs ys:List Int):(thn xs ys).length = xs.length:=by simp [thn]
theorem thn_at {xs ys:List Int} {i:Nat} (hi:i < xs.length):(thn xs ys).getD i 0 = ys.getD (xs.getD i 0).toNat 0:=by
 simp [thn,List.getD,List.getElem?_eq_getElem hi]
theorem thn_ok {xs ys:List Int} (h:Ok xs) (h':Ok ys) (e:xs.length = ys.length):Ok (thn xs ys):=by
 refine ⟨by rw [thn_len];exact h.len,fun i hi=>?_,fun i hi=>?_,fun i j hi hj q=>?_⟩
 ·rw [thn_len] at hi;rw [thn_at hi];exact h'.lo _ (by have:=h.ltN i hi;omega)
 ·rw [thn_len] at hi ⊢;rw [thn_at hi,e];exact h'.hi _ (by have:=h.ltN i hi;omega)
 ·rw [thn_len] at hi hj
  rw [thn_at hi,thn_at hj] at q
  have:=h'.inj _ _ (by have:=h.ltN i hi;omega) (by have:=h.ltN j hj;omega) q
  exact h.injN i j hi hj this
theorem invF_of {xs:List Int} (h:Ok xs):invF xs = Inv xs:=by simp [invF,h.b,Inv]
theorem thenF_of {xs ys:List Int} (h:Ok xs) (h':Ok ys) (e:xs.length = ys.length):thenF xs ys = thn xs ys:=by
 unfold thenF;rw [if_pos (okBB_iff.2 ⟨h.b,h'.b,e⟩)]
theorem renF_of {xs ys:List Int} (h:Ok xs) (h':Ok ys) (e:xs.length = ys.length):renF xs ys = renTo xs.length xs ys xs.length:=by
 unfold renF;rw [if_pos (okBB_iff.2 ⟨h.b,h'.b,e⟩)]
theorem idF_of {n:Nat} (h:n<=24):idF (n:Int) = rng n:=by
 unfold idF rng;rw [if_pos ⟨by omega,by omega⟩];simp
theorem rng_len (n:Nat):(rng n).length = n:=by simp [rng]
theorem rng_at {n i:Nat} (h:i < n):(rng n).getD i 0 = (i:Int):=by simp [rng,List.getD,h]
section
variable {p q s:List Int} {n:Nat} (hp:Ok p) (hq:Ok q) (hs:Ok s) (lp:p.length = n) (lq:q.length = n) (ls:s.length = n)
include hp hq lp lq
theorem back_eq:thenF (invF q) (invF p) = thn (Inv q) (Inv p):=by
 rw [invF_of hp,invF_of hq,thenF_of (Inv_ok hq) (Inv_ok hp) (by rw [Inv_len,Inv_len,lp,lq])]
theorem grp_id:thenF (thenF p q) (thenF (invF q) (invF p)) = idF (n:Int):=by
 have h24:=hp.len
 have okr:=thn_ok hp hq (by omega)
 have okb:=thn_ok (Inv_ok hq) (Inv_ok hp) (by rw [Inv_len,Inv_len,lp,lq])
 rw [back_eq hp hq lp lq,thenF_of hp hq (by omega),thenF_of okr okb (by rw [thn_len,thn_len,Inv_len,lp,lq]),idF_of (by omega)]
 refine list_eq n (by rw [thn_len,thn_len,lp]) (rng_len n) fun i hi=>?_
 have a1:=hp.ltN i (by omega)
 have a2:=hq.ltN _ (show (p.getD i 0).toNat < q.length by omega)
 have e1:(thn p q).getD i 0 = q.getD (p.getD i 0).toNat 0:=thn_at (by omega)
 rw [thn_at (by rw [thn_len];omega),e1,thn_at (by rw [Inv_len];omega),Inv_at hq (by omega),Int.toNat_natCast,Inv_at hp (by omega),rng_at hi]
theorem grp_ren:renF p q = thenF (thenF (invF q) p) q:=by
 have h24:=hp.len
 have ok1:=thn_ok (Inv_ok hq) hp (by rw [Inv_len];omega)
 rw [invF_of hq,thenF_of (Inv_ok hq) hp (by rw [Inv_len];omega),thenF_of ok1 hq (by rw [thn_len,Inv_len]),renF_of hp hq (by omega)]
 refine list_eq n (by rw [renTo_len,lp]) (by rw [thn_len,thn_len,Inv_len,lq]) fun j hj=>?_
 obtain ⟨k,hk,e1,e2⟩:=at_Inv hq (i:=j) (by omega)
 rw [thn_at (by rw [thn_len,Inv_len];omega),thn_at (by rw [Inv_len];omega),e1,Int.toNat_natCast]
 have:=ren_at (xs:=p) hq (by omega) (k:=k) (by omega)
 rw [e2,Int.toNat_natCast] at this
 exact this
theorem ren_ok:Ok (renF p q)/\(renF p q).length = n:=by
 have ok1:=thn_ok (Inv_ok hq) hp (by rw [Inv_len];omega)
 rw [grp_ren hp hq lp lq,invF_of hq,thenF_of (Inv_ok hq) hp (by rw [Inv_len];omega),thenF_of ok1 hq (by rw [thn_len,Inv_len])]
 exact ⟨thn_ok ok1 hq (by rw [thn_len,Inv_len]),by rw [thn_len,thn_len,Inv_len,lq]⟩
theorem ren_ren:Ren n p (renF p q) q:=by
 obtain ⟨h1,h2⟩:=ren_ok hp hq lp lq
 have b1:=hp.bij;have b2:=h1.bij;have b3:=hq.bij
 rw [lp] at b1;rw [h2] at b2;rw [lq] at b3
 refine ⟨b1,b2,b3,fun i hi=>?_⟩
 rw [renF_of hp hq (by omega)]
 exact ren_at hq (by omega) (by omega)
end
end Go.Proofs.Ytgcnemkhppkkcaa.pm

namespace Go.Proofs.Ytgcnemkhppkkcaa.pm
open arr inv permOf
set_option linter.unusedVariables false
set_option maxRecDepth 100000
theorem nodup_sub_len:∀ (l m:List Int),l.Nodup->(∀ x ∈ l,x ∈ m)->l.length<=m.length:=by
 intro l
 induction l with
 | nil=>intros;simp
 | cons a t ih =>
  intro m hd hs
  have hd':=List.nodup_cons.1 hd
  have ha:=hs a (by simp)
  have:=ih (m.erase a) hd'.2 (fun x hx=>(List.mem_erase_of_ne (fun (e:x = a)=>hd'.1 (by rw [<-e];exact hx))).2 (hs x (by simp [hx])))
  rw [List.length_erase_of_mem ha] at this
  have:0 < m.length:=List.length_pos_of_mem ha
  simp
  omega
theorem nodup_sub_mem {l m:List Int} (hl:l.Nodup) (hs:∀ x ∈ l,x ∈ m) (hlen:m.length<=l.length) {y:Int} (hy:y ∈ m):y ∈ l:=by
 by_cases h:y ∈ l
 ·exact h
 ·have:=nodup_sub_len (y :: l) m (List.nodup_cons.2 ⟨h,hl⟩) (fun x hx=>by
   rcases List.mem_cons.1 hx with rfl | hx
   ·exact hy
   ·exact hs x hx)
  simp at this
  omega
theorem add1_pre (l:List Int) (x:Int):l <+: add1 l x:=by
 unfold add1;split
 ·exact List.prefix_refl _
 ·exact List.prefix_append _ _
theorem add1_mem (l:List Int) (x:Int):x ∈ add1 l x:=by unfold add1;split <;> simp_all
theorem rnd_pre (ps qs l:List Int) (k:Nat):l <+: rnd ps qs l k:=by
 unfold rnd;split
 ·exact (add1_pre _ _).trans (add1_pre _ _)
 ·exact List.prefix_refl _
theorem rs_pre (ps qs:List Int) (f:Int) {k m:Nat} (h:k<=m):rs ps qs f k <+: rs ps qs f m:=by
 obtain ⟨j,rfl⟩:∃ j,m = k + j:=⟨m - k,by omega⟩
 induction j with
 | zero=>exact List.prefix_refl _
 | succ j ih=>exact (ih (by omega)).trans (rnd_pre _ _ _ _)
theorem pre_at {l m:List Int} (h:l <+: m) {k:Nat} (hk:k < l.length):m.getD k 0 = l.getD k 0:=by
 obtain ⟨t,rfl⟩:=h
 simp only [List.getD]
 rw [List.getElem?_append_left hk]
theorem rs_early {ps qs:List Int} {f:Int} {k m:Nat} (hk:k < (rs ps qs f m).length) (hm:k<=m):k < (rs ps qs f k).length:=by
 rcases Nat.lt_or_ge k (rs ps qs f k).length with h | h
 ·exact h
 ·rw [rs_stop ps qs f h hm] at hk;omega
theorem reach_closed {n:Nat} {ps qs:List Int} (hn:ps.length = n) (hp:Maps n ps) (hq:Maps n qs) {f:Int} (f0:0<=f) (f1:f < n) {x:Int} (hx:x ∈ reach ps qs f):ps.getD x.toNat 0 ∈ reach ps qs f/\qs.getD x.toNat 0 ∈ reach ps qs f:=by
 unfold reach at hx ⊢
 rw [hn] at hx ⊢
 obtain ⟨k,hk,e⟩:=mem_getD hx
 have hl:=(rs_in hp hq f0 f1 n).len
 have h1:=rs_early hk (by omega)
 rw [pre_at (rs_pre ps qs f (show k<=n by omega)) h1] at e
 obtain ⟨z,hz,_,ez⟩:=(rs_in hp hq f0 f1 k).at_ h1
 have st:=rs_step ps qs f h1 ez
 have hpre:=rs_pre ps qs f (show k + 1<=n by omega)
 rw [ez] at e
 subst e
 rw [Int.toNat_natCast]
 have sub:∀ y,y ∈ rs ps qs f (k + 1)->y ∈ rs ps qs f n:=fun y hy=>hpre.subset hy
 refine ⟨sub _ ?_,sub _ ?_⟩
 ·rw [st];exact (add1_pre _ _).subset (add1_mem _ _)
 ·rw [st];exact add1_mem _ _
theorem reach_start (ps qs:List Int) (f:Int):f ∈ reach ps qs f:=by
 have:=rs_pre ps qs f (Nat.zero_le ps.length)
 exact this.subset (by simp [rs])
theorem reach_least {ps qs:List Int} {f:Int} (C:Int->Prop) (hf:C f) (hc:∀ x,C x->C (ps.getD x.toNat 0)/\C (qs.getD x.toNat 0)) (k:Nat):∀ x ∈ rs ps qs f k,C x:=by
 induction k with
 | zero=>intro x hx;simp [rs] at hx;subst hx;exact hf
 | succ k ih =>
  intro x hx
  have hx':x ∈ rnd ps qs (rs ps qs f k) k:=hx
  unfold rnd at hx'
  split at hx'
  ·rename_i hk
   have hy:=hc _ (ih _ (getD_mem hk))
   unfold add1 at hx'
   split at hx' <;> split at hx' <;> (try simp at hx') <;> (first | exact ih x hx' | skip)
   all_goals
    rcases hx' with q | q
    ·first
      | exact ih x q
      | (rcases q with q | q
         ·exact ih x q
         ·subst q;exact hy.1)
    ·first
      | (subst q;exact hy.1)
      | (subst q;exact hy.2)
      | (rcases q with q | q
         ·subst q;exact hy.1
         ·subst q;exact hy.2)
  ·exact ih x hx'
theorem closed_back {n:Nat} {ps l:List Int} (hb:Bij n ps) (hl:In n l) (hc:∀ x ∈ l,ps.getD x.toNat 0 ∈ l) {y:Int} (y0:0<=y) (y1:y < n) (h:ps.getD y.toNat 0 ∈ l):y ∈ l:=by
 have hm:(l.map fun x=>ps.getD x.toNat 0).Nodup:=by
  unfold List.Nodup
  rw [List.pairwise_map]
  refine List.Pairwise.imp_of_mem ?_ hl.nd
  intro a b ha hb' hab e
  have a0:=hl.lo a ha;have a1:=hl.hi a ha;have b0:=hl.lo b hb';have b1:=hl.hi b hb'
  have:=hb.inj _ _ (by omega) (by omega) e
  omega
 have:=nodup_sub_mem hm (fun x hx=>by obtain ⟨z,hz,rfl⟩:=List.mem_map.1 hx;exact hc z hz) (by simp) h
 obtain ⟨z,hz,e⟩:=List.mem_map.1 this
 have z0:=hl.lo z hz;have z1:=hl.hi z hz
 have:=hb.inj _ _ (by omega) (by omega) e
 have:z = y:=by omega
 exact this ▸ hz
structure Sf (n:Nat) (R U:List Int):Prop where
 r:Ok R
 u:Ok U
 lr:R.length = n
 lu:U.length = n
 pos:0 < n
 all:(reach R U 0).length = n
theorem Sf.br {n:Nat} {R U:List Int} (h:Sf n R U):Bij n R:=by have:=h.r.bij;rw [h.lr] at this;exact this
theorem Sf.bu {n:Nat} {R U:List Int} (h:Sf n R U):Bij n U:=by have:=h.u.bij;rw [h.lu] at this;exact this
theorem transB_iff {R U:List Int}:transB R U = true ↔ Sf R.length R U:=by
 unfold transB
 simp only [Bool.and_eq_true,decide_eq_true_eq,okBB_iff]
 constructor
 ·rintro ⟨⟨⟨h1,h2,h3⟩,h4⟩,h5⟩
  exact ⟨Ok.of R h1,Ok.of U h2,rfl,h3.symm,h4,h5⟩
 ·intro h
  exact ⟨⟨⟨h.r.b,h.u.b,h.lu.symm⟩,h.pos⟩,h.all⟩
theorem Sf.inn {n:Nat} {R U:List Int} (h:Sf n R U) {f:Int} (f0:0<=f) (f1:f < n):In n (reach R U f):=rs_in h.br.maps h.bu.maps f0 f1 _
theorem Sf.full {n:Nat} {R U:List Int} (h:Sf n R U) {f:Int} (f0:0<=f) (f1:f < n) {y:Int} (y0:0<=y) (y1:y < n):y ∈ reach R U f:=by
 have hin:=h.inn f0 f1
 have hcl:∀ x ∈ reach R U f,R.getD x.toNat 0 ∈ reach R U f/\U.getD x.toNat 0 ∈ reach R U f:=fun x hx=>reach_closed h.lr h.br.maps h.bu.maps f0 f1 hx
 have h0:∀ z:Int,0<=z->z < n->z ∈ reach R U 0:=by
  intro z z0 z1
  have i0:=h.inn (f:=0) (by omega) (by have:=h.pos;omega)
  exact nodup_sub_mem i0.nd (m:=rng n) (fun x hx=>mem_rng.2 ⟨i0.lo x hx,i0.hi x hx⟩) (by rw [h.all];simp [rng]) (mem_rng.2 ⟨z0,z1⟩)
 by_cases hz:(0:Int) ∈ reach R U f
 ·have:=reach_least (ps:=R) (qs:=U) (f:=0) (fun x=>x ∈ reach R U f) hz hcl R.length y
  exact this (h0 y y0 y1)
 ·exfalso
  have:=reach_least (ps:=R) (qs:=U) (f:=0) (fun x=>(0<=x/\x < n)/\¬ x ∈ reach R U f) ⟨⟨by omega,by have:=h.pos;omega⟩,hz⟩ (by
   rintro x ⟨⟨x0,x1⟩,hx⟩
   have m1:=h.br.maps x.toNat (by omega);have m2:=h.bu.maps x.toNat (by omega)
   exact ⟨⟨m1,fun q=>hx (closed_back h.br hin (fun x hx=>(hcl x hx).1) x0 x1 q)⟩,⟨m2,fun q=>hx (closed_back h.bu hin (fun x hx=>(hcl x hx).2) x0 x1 q)⟩⟩) R.length f (h0 f f0 f1)
  exact this.2 (reach_start R U f)
theorem Sf.flen {n:Nat} {R U:List Int} (h:Sf n R U) {f:Int} (f0:0<=f) (f1:f < n):(reach R U f).length = n:=by
 have h1:=(h.inn f0 f1).len
 have h2:=nodup_sub_len (rng n) (reach R U f) (rng_nodup n) (fun x hx=>by rw [mem_rng] at hx;exact h.full f0 f1 hx.1 hx.2)
 rw [rng_len] at h2
 omega
theorem In.ok {n:Nat} {l:List Int} (h:In n l) (hl:l.length = n) (h24:n<=24):Ok l:=by
 refine ⟨by omega,fun i hi=>h.lo _ (getD_mem hi),fun i hi=>?_,fun i j hi hj e=>nodup_getD h.nd hi hj e⟩
 have:=h.hi _ (getD_mem hi);omega
theorem Sf.rok {n:Nat} {R U:List Int} (h:Sf n R U) {f:Int} (f0:0<=f) (f1:f < n):Ok (reach R U f):=(h.inn f0 f1).ok (h.flen f0 f1) (by have:=h.r.len;have:=h.lr;omega)
def nm (R U:List Int) (f:Int):List Int:=Inv (reach R U f)
theorem Sf.nok {n:Nat} {R U:List Int} (h:Sf n R U) {f:Int} (f0:0<=f) (f1:f < n):Ok (nm R U f)/\(nm R U f).length = n:=⟨Inv_ok (h.rok f0 f1),by unfold nm;rw [Inv_len,h.flen f0 f1]⟩
structure Iso (n:Nat) (R U R' U' ns:List Int):Prop where
 s:Sf n R U
 okn:Ok ns
 ln:ns.length = n
 r:Ren n R R' ns
 u:Ren n U U' ns
theorem add1_map {n:Nat} {ns l:List Int} (hb:Bij n ns) (hl:In n l) {x:Int} (x0:0<=x) (x1:x < n):add1 (l.map fun y=>ns.getD y.toNat 0) (ns.getD x.toNat 0) = (add1 l x).map fun y=>ns.getD y.toNat 0:=by
 have e:ns.getD x.toNat 0 ∈ (l.map fun y=>ns.getD y.toNat 0) ↔ x ∈ l:=by
  rw [List.mem_map]
  constructor
  ·rintro ⟨y,hy,q⟩
   have:=hl.lo y hy;have:=hl.hi y hy
   have:=hb.inj _ _ (by omega) (by omega) q
   have:y = x:=by omega
   exact this ▸ hy
  ·intro h;exact ⟨x,h,rfl⟩
 unfold add1
 by_cases h:x ∈ l
 ·rw [if_pos h,if_pos (e.2 h)]
 ·rw [if_neg h,if_neg (fun q=>h (e.1 q))];simp
theorem Iso.rs_eq {n:Nat} {R U R' U' ns:List Int} (h:Iso n R U R' U' ns) {f:Int} (f0:0<=f) (f1:f < n) (k:Nat):rs R' U' (ns.getD f.toNat 0) k = (rs R U f k).map fun y=>ns.getD y.toNat 0:=by
 induction k with
 | zero=>rfl
 | succ k ih =>
  have hin:=rs_in h.s.br.maps h.s.bu.maps f0 f1 k
  show rnd R' U' _ k = (rnd R U _ k).map _
  rw [ih]
  unfold rnd
  rw [List.length_map]
  split
  ·rename_i hk
   obtain ⟨z,hz,_,ez⟩:=hin.at_ hk
   have e1:((rs R U f k).map fun y=>ns.getD y.toNat 0).getD k 0 = ns.getD z 0:=by
    simp only [List.getD,List.getElem?_map,List.getElem?_eq_getElem hk,Option.map_some,Option.getD_some]
    have:(rs R U f k)[k] = (z:Int):=by rw [<-ez];simp [List.getD,List.getElem?_eq_getElem hk]
    rw [this];simp
   have m1:=h.s.br.maps z hz;have m2:=h.s.bu.maps z hz
   rw [e1,ez,Int.toNat_natCast,h.r.eq z hz,h.u.eq z hz,add1_map h.r.s hin m1.1 m1.2,add1_map h.r.s (hin.add m1.1 m1.2) m2.1 m2.2]
  ·rfl
theorem Iso.reach_eq {n:Nat} {R U R' U' ns:List Int} (h:Iso n R U R' U' ns) (hl:R'.length = n) {f:Int} (f0:0<=f) (f1:f < n):reach R' U' (ns.getD f.toNat 0) = (reach R U f).map fun y=>ns.getD y.toNat 0:=by
 unfold reach;rw [hl,h.s.lr];exact h.rs_eq f0 f1 n
theorem map_at {g:Int->Int} {l:List Int} {k:Nat} (hk:k < l.length):(l.map g).getD k 0 = g (l.getD k 0):=by
 simp [List.getD,List.getElem?_eq_getElem hk]
theorem Iso.nm_eq {n:Nat} {R U R' U' ns:List Int} (h:Iso n R U R' U' ns) (hl:R'.length = n) {f:Int} (f0:0<=f) (f1:f < n) {i:Nat} (hi:i < n):(nm R' U' (ns.getD f.toNat 0)).getD (ns.getD i 0).toNat 0 = (nm R U f).getD i 0:=by
 have fl:=h.s.flen f0 f1
 have ok:=h.s.rok f0 f1
 obtain ⟨k,hk,e⟩:=mem_getD (h.s.full f0 f1 (y:=(i:Int)) (by omega) (by omega))
 have a:=Inv_at ok hk
 rw [e,Int.toNat_natCast] at a
 unfold nm
 rw [a,h.reach_eq hl f0 f1]
 have hin:In n ((reach R U f).map fun y=>ns.getD y.toNat 0):=by
  have hn:=h.s.inn f0 f1
  refine ⟨?_,fun x hx=>?_,fun x hx=>?_⟩
  ·unfold List.Nodup
   rw [List.pairwise_map]
   refine List.Pairwise.imp_of_mem ?_ hn.nd
   intro a b ha hb hab q
   have:=hn.lo a ha;have:=hn.hi a ha;have:=hn.lo b hb;have:=hn.hi b hb
   have:=h.r.s.inj _ _ (by omega) (by omega) q
   omega
  ·obtain ⟨y,hy,rfl⟩:=List.mem_map.1 hx
   exact (h.r.s.maps _ (by have:=hn.lo y hy;have:=hn.hi y hy;omega)).1
  ·obtain ⟨y,hy,rfl⟩:=List.mem_map.1 hx
   exact (h.r.s.maps _ (by have:=hn.lo y hy;have:=hn.hi y hy;omega)).2
 have ok2:=hin.ok (by simp [fl]) (by have:=h.s.r.len;have:=h.s.lr;omega)
 have b:=Inv_at ok2 (k:=k) (by simpa using hk)
 rw [map_at hk,e,Int.toNat_natCast] at b
 exact b
end Go.Proofs.Ytgcnemkhppkkcaa.pm

namespace Go.Proofs.Ytgcnemkhppkkcaa.pm
open arr inv permOf
set_option linter.unusedVariables false
set_option maxRecDepth 100000
abbrev Sur:=List Int × List Int
def Fm (R U:List Int) (n:Nat) (f:Int):Sur:=(renTo n R (nm R U f) n,renTo n U (nm R U f) n)
theorem ren_at' {n:Nat} {xs ys:List Int} (h:Ok ys) (lx:xs.length = n) (ly:ys.length = n) {k:Nat} (hk:k < n):(renTo n xs ys n).getD (ys.getD k 0).toNat 0 = ys.getD (xs.getD k 0).toNat 0:=by
 subst lx;exact ren_at h ly.symm hk
theorem ren_list {n:Nat} {xs ys l:List Int} (h:Ok ys) (lx:xs.length = n) (ly:ys.length = n) (ll:l.length = n) (q:∀ k,k < n->l.getD (ys.getD k 0).toNat 0 = ys.getD (xs.getD k 0).toNat 0):renTo n xs ys n = l:=by
 refine list_eq n (renTo_len _ _ _ _) ll fun i hi=>?_
 obtain ⟨k,hk,e⟩:=h.onto (y:=i) (by omega)
 have a:=ren_at' h lx ly (k:=k) (by omega)
 have b:=q k (by omega)
 rw [e,Int.toNat_natCast] at a b
 rw [a,b]
theorem Iso.F_eq {n:Nat} {R U R' U' ns:List Int} (h:Iso n R U R' U' ns) (s':Sf n R' U') {f:Int} (f0:0<=f) (f1:f < n):Fm R' U' n (ns.getD f.toNat 0) = Fm R U n f:=by
 have g:=h.r.s.maps f.toNat (by omega)
 obtain ⟨nk,nl⟩:=h.s.nok f0 f1
 obtain ⟨nk',nl'⟩:=s'.nok g.1 g.2
 have key:∀ i,i < n->(nm R' U' (ns.getD f.toNat 0)).getD (ns.getD i 0).toNat 0 = (nm R U f).getD i 0:=fun i hi=>h.nm_eq s'.lr f0 f1 hi
 have one:∀ X X':List Int,X.length = n->X'.length = n->Maps n X->Ren n X X' ns->renTo n X (nm R U f) n = renTo n X' (nm R' U' (ns.getD f.toNat 0)) n:=by
  intro X X' lx lx' mx hr
  refine ren_list nk lx nl (renTo_len _ _ _ _) fun k hk=>?_
  have m:=h.r.s.maps k hk
  have a:=ren_at' nk' lx' nl' (k:=(ns.getD k 0).toNat) (by omega)
  rw [key k hk,hr.eq k hk,key _ (by have:=mx k hk;omega)] at a
  exact a
 unfold Fm
 rw [one R R' h.s.lr s'.lr h.s.br.maps h.r,one U U' h.s.lu s'.lu h.s.bu.maps h.u]
theorem mkIso {n:Nat} {R U ns:List Int} (s:Sf n R U) (hn:Ok ns) (ln:ns.length = n):Iso n R U (renTo n R ns n) (renTo n U ns n) ns/\Sf n (renTo n R ns n) (renTo n U ns n):=by
 have eR:renF R ns = renTo n R ns n:=by rw [renF_of s.r hn (by rw [s.lr,ln]),s.lr]
 have eU:renF U ns = renTo n U ns n:=by rw [renF_of s.u hn (by rw [s.lu,ln]),s.lu]
 have rR:=ren_ren s.r hn s.lr ln;have rU:=ren_ren s.u hn s.lu ln
 have oR:=ren_ok s.r hn s.lr ln;have oU:=ren_ok s.u hn s.lu ln
 rw [eR] at rR oR;rw [eU] at rU oU
 have iso:Iso n R U (renTo n R ns n) (renTo n U ns n) ns:=⟨s,hn,ln,rR,rU⟩
 refine ⟨iso,oR.1,oU.1,oR.2,oU.2,s.pos,?_⟩
 obtain ⟨g,hg,e⟩:=hn.onto (y:=0) (by have:=s.pos;omega)
 have:=iso.reach_eq oR.2 (f:=(g:Int)) (by omega) (by omega)
 rw [Int.toNat_natCast,e] at this
 have e0:((0:Nat):Int) = 0:=rfl
 rw [e0] at this
 rw [this,List.length_map,s.flen (by omega) (by omega)]
def lessL:List Int->List Int->Bool
 | a :: s,b :: t=>if a = b then lessL s t else decide (a < b)
 | _,_=>false
theorem lessL_irr (a:List Int):lessL a a = false:=by
 induction a with
 | nil=>rfl
 | cons x t ih=>simp [lessL,ih]
theorem lessL_total:∀ (a b:List Int),a.length = b.length->a ≠ b->lessL a b = true\/lessL b a = true:=by
 intro a
 induction a with
 | nil=>intro b hl hne;cases b with
  | nil=>exact absurd rfl hne
  | cons y t=>simp at hl
 | cons x s ih =>
  intro b hl hne
  cases b with
  | nil=>simp at hl
  | cons y t =>
   simp only [lessL]
   by_cases e:x = y
   ·subst e
    simp only [if_true]
    exact ih t (by simpa using hl) (fun q=>hne (by rw [q]))
   ·rw [if_neg e,if_neg (fun q=>e q.symm)]
    simp only [decide_eq_true_eq]
    omega
theorem lessL_trans:∀ (a b c:List Int),lessL a b = true->lessL b c = true->lessL a c = true:=by
 intro a
 induction a with
 | nil=>intro b c h;simp [lessL] at h
 | cons x s ih =>
  intro b c h1 h2
  cases b with
  | nil=>simp [lessL] at h1
  | cons y t =>
   cases c with
   | nil=>simp [lessL] at h2
   | cons z u =>
    simp only [lessL] at h1 h2 ⊢
    by_cases e1:x = y
    ·subst e1
     rw [if_pos rfl] at h1
     by_cases e2:x = z
     ·subst e2;rw [if_pos rfl] at h2 ⊢;exact ih t u h1 h2
     ·rw [if_neg e2] at h2 ⊢;exact h2
    ·rw [if_neg e1] at h1
     simp only [decide_eq_true_eq] at h1
     by_cases e2:y = z
     ·subst e2;rw [if_neg e1];simpa using h1
     ·rw [if_neg e2] at h2
      simp only [decide_eq_true_eq] at h2
      rw [if_neg (by omega)]
      simp only [decide_eq_true_eq]
      omega
def bef (a b:Sur):Bool:=if a.1 = b.1 then lessL a.2 b.2 else lessL a.1 b.1
theorem bef_irr (a:Sur):bef a a = false:=by simp [bef,lessL_irr]
theorem bef_total {a b:Sur} (h1:a.1.length = b.1.length) (h2:a.2.length = b.2.length) (hne:a ≠ b):bef a b = true\/bef b a = true:=by
 unfold bef
 by_cases e:a.1 = b.1
 ·rw [if_pos e,if_pos e.symm]
  exact lessL_total _ _ h2 (fun q=>hne (Prod.ext e q))
 ·rw [if_neg e,if_neg (fun q=>e q.symm)]
  exact lessL_total _ _ h1 e
theorem bef_trans {a b c:Sur} (h1:bef a b = true) (h2:bef b c = true):bef a c = true:=by
 unfold bef at *
 by_cases e1:a.1 = b.1
 ·rw [if_pos e1] at h1
  by_cases e2:b.1 = c.1
  ·rw [if_pos e2] at h2;rw [if_pos (e1.trans e2)];exact lessL_trans _ _ _ h1 h2
  ·rw [if_neg e2] at h2;rw [if_neg (fun q=>e2 (e1.symm.trans q)),e1];exact h2
 ·rw [if_neg e1] at h1
  by_cases e2:b.1 = c.1
  ·rw [if_neg (fun q=>e1 (q.trans e2.symm)),<-e2];exact h1
  ·rw [if_neg e2] at h2
   have:=lessL_trans _ _ _ h1 h2
   rw [if_neg (fun q=>by rw [q,lessL_irr] at this;cases this)]
   exact this
def canTo (F:Int->Sur):Nat->Sur
 | 0=>F 0
 | k + 1=>if bef (F ((k:Int) + 1)) (canTo F k) then F ((k:Int) + 1) else canTo F k
theorem canTo_is (F:Int->Sur) (k:Nat):∃ j:Nat,j<=k/\canTo F k = F (j:Int):=by
 induction k with
 | zero=>exact ⟨0,Nat.le_refl _,rfl⟩
 | succ k ih =>
  obtain ⟨j,hj,e⟩:=ih
  rw [canTo];split
  ·exact ⟨k + 1,Nat.le_refl _,by simp⟩
  ·exact ⟨j,by omega,e⟩
theorem canTo_min (F:Int->Sur) (k:Nat):∀ i:Nat,i<=k->bef (F (i:Int)) (canTo F k) = false:=by
 induction k with
 | zero=>intro i hi;obtain rfl:i = 0:=by omega
         exact bef_irr _
 | succ k ih =>
  intro i hi
  rw [canTo];split
  ·rename_i h
   by_cases e:i = k + 1
   ·subst e;simp [bef_irr]
   ·cases q:bef (F (i:Int)) (F ((k:Int) + 1)) with
    | false=>rfl
    | true=>have:=bef_trans q h;rw [ih i (by omega)] at this;cases this
  ·rename_i h
   by_cases e:i = k + 1
   ·subst e;simpa using h
   ·exact ih i (by omega)
def can (R U:List Int) (n:Nat):Sur:=canTo (Fm R U n) (n - 1)
theorem Fm_len (R U:List Int) (n:Nat) (f:Int):(Fm R U n f).1.length = n/\(Fm R U n f).2.length = n:=⟨renTo_len _ _ _ _,renTo_len _ _ _ _⟩
theorem can_is {R U:List Int} {n:Nat} (h:0 < n):∃ j:Nat,j < n/\can R U n = Fm R U n (j:Int):=by
 obtain ⟨j,hj,e⟩:=canTo_is (Fm R U n) (n - 1)
 exact ⟨j,by omega,e⟩
theorem can_min {R U:List Int} {n i:Nat} (hi:i < n):bef (Fm R U n (i:Int)) (can R U n) = false:=canTo_min _ _ i (by omega)
theorem can_unique {R U R' U':List Int} {n:Nat} (hn:0 < n) (h1:∀ i:Nat,i < n->∃ j:Nat,j < n/\Fm R U n (i:Int) = Fm R' U' n (j:Int)) (h2:∀ j:Nat,j < n->∃ i:Nat,i < n/\Fm R' U' n (j:Int) = Fm R U n (i:Int)):can R' U' n = can R U n:=by
 obtain ⟨a,ha,ea⟩:=can_is (R:=R) (U:=U) hn
 obtain ⟨b,hb,eb⟩:=can_is (R:=R') (U:=U') hn
 obtain ⟨a',ha',ea'⟩:=h1 a ha
 obtain ⟨b',hb',eb'⟩:=h2 b hb
 have m1:=can_min (R:=R') (U:=U') ha'
 have m2:=can_min (R:=R) (U:=U) hb'
 rw [<-ea',<-ea] at m1
 rw [<-eb',<-eb] at m2
 by_cases e:can R' U' n = can R U n
 ·exact e
 ·rcases bef_total (by rw [ea,eb,(Fm_len _ _ _ _).1,(Fm_len _ _ _ _).1]) (by rw [ea,eb,(Fm_len _ _ _ _).2,(Fm_len _ _ _ _).2]) e with q | q
  ·rw [m2] at q;cases q
  ·rw [m1] at q;cases q
theorem Iso.can_eq {n:Nat} {R U R' U' ns:List Int} (h:Iso n R U R' U' ns) (s':Sf n R' U'):can R' U' n = can R U n:=by
 refine can_unique h.s.pos (fun i hi=>?_) (fun j hj=>?_)
 ·have m:=h.r.s.maps i hi
  have:=h.F_eq s' (f:=(i:Int)) (by omega) (by omega)
  rw [Int.toNat_natCast] at this
  exact ⟨(ns.getD i 0).toNat,by omega,by rw [Int.toNat_of_nonneg m.1,this]⟩
 ·obtain ⟨i,hi,e⟩:=h.okn.onto (y:=j) (by have:=h.ln;omega)
  have:=h.F_eq s' (f:=(i:Int)) (by omega) (by have:=h.ln;omega)
  rw [Int.toNat_natCast,e] at this
  exact ⟨i,by have:=h.ln;omega,this⟩
theorem Sf.can_iso {n:Nat} {R U:List Int} (s:Sf n R U):∃ ns,Iso n R U (can R U n).1 (can R U n).2 ns/\Sf n (can R U n).1 (can R U n).2:=by
 obtain ⟨j,hj,e⟩:=can_is (R:=R) (U:=U) s.pos
 obtain ⟨k,l⟩:=s.nok (f:=(j:Int)) (by omega) (by omega)
 rw [e]
 exact ⟨_,mkIso s k l⟩
end Go.Proofs.Ytgcnemkhppkkcaa.pm

namespace Go.Proofs.Ytgcnemkhppkkcaa.pm
open arr inv permOf
set_option linter.unusedVariables false
set_option maxRecDepth 100000
section
variable {n:Nat} {R U:List Int} (s:Sf n R U) {f g h:Int} (f0:0<=f) (f1:f < n) (h0:0<=h) (h1:h < n)
include s f0 f1 h0 h1
end
def sym (R U:List Int) (n:Nat):Nat:=(rng n).countP fun h=>decide (Fm R U n h = can R U n)
end Go.Proofs.Ytgcnemkhppkkcaa.pm

namespace Go.Proofs.Ytgcnemkhppkkcaa.pm
open arr inv permOf
set_option linter.unusedVariables false
set_option maxRecDepth 100000
theorem Inv_Inv {q:List Int} (h:Ok q):Inv (Inv q) = q:=by
 refine list_eq q.length (by rw [Inv_len,Inv_len]) rfl fun i hi=>?_
 have hk:=Inv_ok h
 have m:=h.maps i hi
 have a:=Inv_at hk (k:=(q.getD i 0).toNat) (by rw [Inv_len];omega)
 rw [Inv_at h hi,Int.toNat_natCast] at a
 rw [a]
 omega
theorem Inv_right {q:List Int} (h:Ok q) {x:Int} (x0:0<=x) (x1:x < q.length):q.getD ((Inv q).getD x.toNat 0).toNat 0 = x:=by
 obtain ⟨k,hk,e1,e2⟩:=at_Inv h (i:=x.toNat) (by omega)
 rw [e1,Int.toNat_natCast,e2]
 omega
theorem Inv_left {q:List Int} (h:Ok q) {x:Int} (x0:0<=x) (x1:x < q.length):(Inv q).getD (q.getD x.toNat 0).toNat 0 = x:=by
 rw [Inv_at h (k:=x.toNat) (by omega)];omega
theorem thn_assoc {p q r:List Int} (hp:Ok p) (lq:p.length = q.length):thn (thn p q) r = thn p (thn q r):=by
 refine list_eq p.length (by rw [thn_len,thn_len]) (by rw [thn_len]) fun i hi=>?_
 have m:=hp.maps i hi
 rw [thn_at (by rw [thn_len];exact hi),thn_at (ys:=q) hi,thn_at (ys:=thn q r) hi,thn_at (by omega)]
theorem thn_id {n:Nat} {p:List Int} (hp:Ok p) (l:p.length = n):thn p (rng n) = p:=by
 refine list_eq p.length (by rw [thn_len]) rfl fun i hi=>?_
 have m:=hp.maps i hi
 rw [thn_at hi,rng_at (by omega)]
 omega
theorem id_thn {n:Nat} {p:List Int} (l:p.length = n):thn (rng n) p = p :=
 list_eq n (by rw [thn_len,rng_len]) l fun i hi=>by rw [thn_at (by rw [rng_len];exact hi),rng_at hi,Int.toNat_natCast]
theorem thn_Inv {n:Nat} {q:List Int} (hq:Ok q) (lq:q.length = n):thn q (Inv q) = rng n :=
 list_eq n (by rw [thn_len];exact lq) (rng_len n) fun i hi=>by rw [thn_at (by omega),Inv_at hq (by omega),rng_at hi]
theorem Inv_thn_self {n:Nat} {q:List Int} (hq:Ok q) (lq:q.length = n):thn (Inv q) q = rng n:=by
 have:=thn_Inv (Inv_ok hq) (n:=n) (by rw [Inv_len];exact lq)
 rw [Inv_Inv hq] at this
 exact this
theorem Sf.of_closed {n:Nat} {R U R' U':List Int} (s:Sf n R U) (r':Ok R') (u':Ok U') (lr':R'.length = n) (lu':U'.length = n)
  (hc:∀ C:List Int,In n C->(∀ x ∈ C,R'.getD x.toNat 0 ∈ C/\U'.getD x.toNat 0 ∈ C)->∀ x ∈ C,R.getD x.toNat 0 ∈ C/\U.getD x.toNat 0 ∈ C):Sf n R' U':=by
 have b1:Bij n R':=by have:=r'.bij;rw [lr'] at this;exact this
 have b2:Bij n U':=by have:=u'.bij;rw [lu'] at this;exact this
 have hp:=s.pos
 have hin:In n (reach R' U' 0):=rs_in b1.maps b2.maps (by omega) (by omega) _
 have hcl:∀ x ∈ reach R' U' 0,R'.getD x.toNat 0 ∈ reach R' U' 0/\U'.getD x.toNat 0 ∈ reach R' U' 0:=fun x hx=>reach_closed lr' b1.maps b2.maps (by omega) (by omega) hx
 have:=reach_least (ps:=R) (qs:=U) (f:=0) (fun x=>x ∈ reach R' U' 0) (reach_start _ _ _) (hc _ hin hcl) R.length
 refine ⟨r',u',lr',lu',hp,?_⟩
 have h1:=nodup_sub_len (rng n) (reach R' U' 0) (rng_nodup n) (fun x hx=>by
  rw [mem_rng] at hx
  exact this x (s.full (f:=0) (by omega) (by omega) hx.1 hx.2))
 rw [rng_len] at h1
 have:=hin.len
 omega
theorem closed_Inv {n:Nat} {q C:List Int} (hq:Ok q) (lq:q.length = n) (hC:In n C) (hc:∀ x ∈ C,(Inv q).getD x.toNat 0 ∈ C):∀ x ∈ C,q.getD x.toNat 0 ∈ C:=by
 intro x hx
 have x0:=hC.lo x hx;have x1:=hC.hi x hx
 have b:Bij n (Inv q):=by have:=(Inv_ok hq).bij;rw [Inv_len,lq] at this;exact this
 have m:=hq.maps x.toNat (by omega)
 refine closed_back b hC hc m.1 (by omega) ?_
 rw [Inv_left hq x0 (by omega)]
 exact hx
theorem closed_q {n:Nat} {q C:List Int} (hq:Ok q) (lq:q.length = n) (hC:In n C) (hc:∀ x ∈ C,q.getD x.toNat 0 ∈ C):∀ x ∈ C,(Inv q).getD x.toNat 0 ∈ C:=by
 have:=closed_Inv (Inv_ok hq) (n:=n) (by rw [Inv_len];exact lq) hC (by rw [Inv_Inv hq];exact hc)
 exact this
def shearS (s:Sur):Sur:=(s.1,thn (Inv s.1) s.2)
def unshearS (s:Sur):Sur:=(s.1,thn s.1 s.2)
def turnS (s:Sur):Sur:=(Inv s.2,s.1)
def unturnS (s:Sur):Sur:=(s.2,Inv s.1)
section
variable {n:Nat} {R U:List Int} (s:Sf n R U)
include s
theorem shear_sf:Sf n (shearS (R,U)).1 (shearS (R,U)).2:=by
 refine s.of_closed s.r (thn_ok (Inv_ok s.r) s.u (by rw [Inv_len,s.lr,s.lu])) s.lr (by show (thn (Inv R) U).length = n;rw [thn_len,Inv_len];exact s.lr) fun C hC hc x hx=>?_
 have h1:R.getD x.toNat 0 ∈ C:=(hc x hx).1
 refine ⟨h1,?_⟩
 have h2:(thn (Inv R) U).getD (R.getD x.toNat 0).toNat 0 ∈ C:=(hc _ h1).2
 have x0:=hC.lo x hx;have x1:=hC.hi x hx
 have m:=s.r.maps x.toNat (by have:=s.lr;omega)
 have lr:=s.lr
 rw [thn_at (by rw [Inv_len];omega),Inv_left s.r x0 (by omega)] at h2
 exact h2
theorem unshear_sf:Sf n (unshearS (R,U)).1 (unshearS (R,U)).2:=by
 refine s.of_closed s.r (thn_ok s.r s.u (by rw [s.lr,s.lu])) s.lr (by show (thn R U).length = n;rw [thn_len];exact s.lr) fun C hC hc x hx=>?_
 refine ⟨(hc x hx).1,?_⟩
 have lr:=s.lr
 have x0:=hC.lo x hx;have x1:=hC.hi x hx
 have hi:=closed_q s.r s.lr hC (fun x hx=>(hc x hx).1) x hx
 have h2:=(hc _ hi).2
 have i0:=hC.lo _ hi;have i1:=hC.hi _ hi
 change (thn R U).getD _ 0 ∈ C at h2
 rw [thn_at (by omega),Inv_right s.r x0 (by omega)] at h2
 exact h2
theorem turn_sf:Sf n (turnS (R,U)).1 (turnS (R,U)).2:=by
 refine s.of_closed (Inv_ok s.u) s.r (by show (Inv U).length = n;rw [Inv_len];exact s.lu) s.lr fun C hC hc x hx=>?_
 exact ⟨(hc x hx).2,closed_Inv s.u s.lu hC (fun x hx=>(hc x hx).1) x hx⟩
theorem unturn_sf:Sf n (unturnS (R,U)).1 (unturnS (R,U)).2:=by
 refine s.of_closed s.u (Inv_ok s.r) s.lu (by show (Inv R).length = n;rw [Inv_len];exact s.lr) fun C hC hc x hx=>?_
 exact ⟨closed_Inv s.r s.lr hC (fun x hx=>(hc x hx).2) x hx,(hc x hx).1⟩
theorem unshear_shear:unshearS (shearS (R,U)) = (R,U):=by
 show (R,thn R (thn (Inv R) U)) = (R,U)
 rw [<-thn_assoc s.r (by rw [Inv_len]),thn_Inv s.r s.lr,id_thn s.lu]
theorem shear_unshear:shearS (unshearS (R,U)) = (R,U):=by
 show (R,thn (Inv R) (thn R U)) = (R,U)
 rw [<-thn_assoc (Inv_ok s.r) (by rw [Inv_len]),Inv_thn_self s.r s.lr,id_thn s.lu]
theorem unturn_turn:unturnS (turnS (R,U)) = (R,U):=by
 show (R,Inv (Inv U)) = (R,U)
 rw [Inv_Inv s.u]
theorem turn_unturn:turnS (unturnS (R,U)) = (R,U):=by
 show (Inv (Inv R),U) = (R,U)
 rw [Inv_Inv s.r]
end
end Go.Proofs.Ytgcnemkhppkkcaa.pm

namespace Go.Proofs.Ytgcnemkhppkkcaa.sf
open Go.ChangeShapes Go.WideShapes Go.ChangeAt Go.RowKit
open mem ints arr
set_option linter.unusedVariables false
set_option maxRecDepth 100000
structure Hld (base top:Nat) (w:World) (bs:List (Nat × List Value)) (w':World):Prop where
 at_:∀ p ∈ bs,p.1 < top/\w'.rangeAt p.1 0 p.2
 below:Below base w w'
 size:top<=w'.heap.size
theorem Hld.start1 {w:World} {a:Nat} {xs:List Value} {t:TypeId} (h1:Arr w a xs t):Hld w.heap.size w.heap.size w [(a,xs)] w.drew :=
 ⟨fun p hp=>by
  simp only [List.mem_cons,List.not_mem_nil,or_false] at hp
  subst hp
  exact ⟨h1.lt,fun j v hv=>by rw [Nat.zero_add];exact h1.cell hv⟩,
  ⟨rfl,rfl,rfl,Nat.le_refl _,fun _ _=>rfl⟩,Nat.le_refl _⟩
theorem Hld.start2 {w:World} {a b:Nat} {xs ys:List Value} {t t':TypeId} (h1:Arr w a xs t) (h2:Arr w b ys t'):Hld w.heap.size w.heap.size w [(a,xs),(b,ys)] w.drew :=
 ⟨fun p hp=>by
  simp only [List.mem_cons,List.not_mem_nil,or_false] at hp
  rcases hp with rfl | rfl
  ·exact ⟨h1.lt,fun j v hv=>by rw [Nat.zero_add];exact h1.cell hv⟩
  ·exact ⟨h2.lt,fun j v hv=>by rw [Nat.zero_add];exact h2.cell hv⟩,
  ⟨rfl,rfl,rfl,Nat.le_refl _,fun _ _=>rfl⟩,Nat.le_refl _⟩
theorem Hld.fst {base top a:Nat} {w W:World} {xs:List Value} {l:List (Nat × List Value)} (h:Hld base top w ((a,xs) :: l) W):W.rangeAt a 0 xs:=(h.at_ _ (List.mem_cons_self ..)).2
theorem Hld.snd {base top a:Nat} {w W:World} {xs:List Value} {p:Nat × List Value} {l:List (Nat × List Value)} (h:Hld base top w (p :: (a,xs) :: l) W):W.rangeAt a 0 xs:=(h.at_ (a,xs) (by simp)).2
theorem Hld.later {base top:Nat} {w W W':World} {bs:List (Nat × List Value)} (h:Hld base top w bs W) (hB:Below W.heap.size W W') (hb:base<=top):Hld base top w bs W' :=
 ⟨fun p hp=>⟨(h.at_ p hp).1,fun j v hv=>by rw [hB.cell (p:=⟨p.1,0 + j,none⟩) (show p.1 < _ from Nat.lt_of_lt_of_le (h.at_ p hp).1 h.size)];exact (h.at_ p hp).2 j v hv⟩,
  h.below.trans (hB.mono (Nat.le_trans hb h.size)),Nat.le_trans h.size hB.size⟩
theorem size2:(sqp.prog.info? 25).map (·.size) = some 2:=by kernel_rfl
end Go.Proofs.Ytgcnemkhppkkcaa.sf

namespace Go.Proofs.Ytgcnemkhppkkcaa.fns
open Go.ChangeShapes Go.WideShapes Go.ChangeAt Go.RowKit
open mem ints arr pm permOk permOf inv
set_option linter.unusedVariables false
set_option maxRecDepth 100000
theorem below_same {w w':World} (h:w = w'):Below w.heap.size w w':=h ▸ Below.refl _ _
theorem ok_spec (A:Option Addr) (n c:Nat) (xs:List Int) (hi:Nat) (w:World) (hx:Rd w hi A n (V xs)) (hn:n<=1048576) (hc:n<=c) :
  Calls sqp.prog 104 #[.slice A n c] w fun e w'=>e = .returned (.bool (okB xs))/\Below w.heap.size w w' :=
 (permOk.spec_any A n c xs hi w hx hn hc).mono fun _ _ ⟨he,hw⟩=>⟨he,below_same hw⟩
def Gives (r:List Int) (w:World) (e:Ending) (w':World):Prop:=∃ v,e = .returned v/\w'.ownsRow w.heap.size 3 1 v r.length (V r)/\Below w.heap.size w w'
set_option maxHeartbeats 400000 in
theorem list_gives (qs:List Int) (n:Nat) (w:World) (hl:qs.length = 24) (hn:n<=24) :
  Calls sqp.prog 67 #[.agg (V qs).toArray,.int .i64 n] w (Gives (qs.take n) w) :=
 list_any qs n w hl hn
end Go.Proofs.Ytgcnemkhppkkcaa.fns

namespace Go.Proofs.Ytgcnemkhppkkcaa.fns
open Go.ChangeShapes Go.WideShapes Go.ChangeAt Go.RowKit
open mem ints arr pm permOk permOf inv
set_option linter.unusedVariables false
set_option maxRecDepth 100000
theorem Ok.nat {xs:List Int} (h:Ok xs) {k:Nat} (hk:k < xs.length):∃ z:Nat,z < xs.length/\xs[k]? = some (z:Int)/\xs.getD k 0 = (z:Int):=by
 have h1:=h.lo k hk;have h2:=h.hi k hk
 have e:xs[k]? = some (xs.getD k 0):=by rw [List.getD,List.getElem?_eq_getElem hk];rfl
 exact ⟨(xs.getD k 0).toNat,by omega,by rw [e];congr 1;omega,by omega⟩
def Made (n:Nat) (w wr:World) (l:List Int):Prop:=wr.ownsRow w.heap.size 3 1 (.slice (some ⟨w.heap.size,0,none⟩) n n) n (V l)/\Below w.heap.size w wr
end Go.Proofs.Ytgcnemkhppkkcaa.fns

namespace Go.Proofs.Ytgcnemkhppkkcaa.fns
open Go.ChangeShapes Go.WideShapes Go.ChangeAt Go.RowKit
open mem ints arr pm permOk permOf inv
set_option linter.unusedVariables false
set_option maxRecDepth 100000
structure Grows (w wr:World) (v:Value) (l:List Int):Prop where
 own:wr.ownsRow w.heap.size 3 1 v l.length (V l)
 below:Below w.heap.size w wr
theorem Grows.empty (w:World):Grows w (w.alloc (.cells #[] 3)) (.slice (some ⟨w.heap.size,0,none⟩) 0 0) [] :=
 ⟨⟨rfl,.inr ⟨w.heap.size,0,#[],rfl,Nat.le_refl _,heap_alloc_last w _,Nat.le_refl _,by simp,rfl,rfl⟩⟩,(Below.refl _ _).alloc (Nat.le_refl _) _⟩
theorem Grows.one (w:World) (z:Int):Grows w (w.alloc (.cells #[.int .i64 z] 3)) (.slice (some ⟨w.heap.size,0,none⟩) 1 1) [z] :=
 ⟨⟨rfl,.inr ⟨w.heap.size,1,#[.int .i64 z],rfl,Nat.le_refl _,heap_alloc_last w _,Nat.le_refl _,by unfold maxLen;omega,rfl,rfl⟩⟩,(Below.refl _ _).alloc (Nat.le_refl _) _⟩
theorem Grows.next {w wr w':World} {v v':Value} {l:List Int} {z:Int} {n:Nat} (h:Grows w wr v l) (ho:w'.ownsRow w.heap.size 3 1 v' (n + 1) (V l ++ [.int .i64 z])) (hn:n = l.length) (hg:wr.grownBy w' v.ownBlock):Grows w w' v' (l ++ [z]):=by
 subst hn
 refine ⟨?_,h.below.trans (own_below h.own hg (Nat.le_refl _) h.below.size)⟩
 have e:V (l ++ [z]) = V l ++ [.int .i64 z]:=by simp [V]
 rw [e]
 simpa using ho
theorem Grows.gives {w wr:World} {v:Value} {l:List Int} (h:Grows w wr v l):Gives l w (.returned v) wr:=⟨v,rfl,h.own,h.below⟩
theorem thn_snoc (xs ys:List Int) {k z:Nat} (h:xs[k]? = some (z:Int)):thn (xs.take (k + 1)) ys = thn (xs.take k) ys ++ [ys.getD z 0]:=by
 rw [List.take_add_one,h];simp [thn]
set_option maxHeartbeats 1000000 in
theorem l02then_any (A:Option Addr) (n c:Nat) (B:Option Addr) (m d:Nat) (xs ys:List Int) (h1 h2:Nat) (w:World) (hx:Rd w h1 A n (V xs)) (hy:Rd w h2 B m (V ys)) (ok:Ok xs) (hnm:n = m) :
  Calls sqp.prog 113 #[.slice A n c,.slice B m d] w (Gives (thn xs ys) w):=by
 subst hnm
 obtain ⟨i0,hi0,hz0,hz1,hz2⟩:=info_parts infoI
 have lx:xs.length = n:=by simpa [V] using hx.1
 have ly:ys.length = n:=by simpa [V] using hy.1
 have hn:n<=24:=by have:=ok.len;omega
 have LX:=Lib.hid lx;have LY:=Lib.hid ly;clear lx ly
 have OK:=Lib.hid ok;clear ok
 have HX:=Lib.hid hx;have HY:=Lib.hid hy;clear hx hy
 go_enter sqp.func113,sqp.ntmps113
 go_wp2
 go_loopw [5,11] (fun v i wr=>∃ k:Nat,k<=n/\i = .int .i64 k/\Grows w wr v (thn (xs.take k) ys)) (fun _ i _=>n - (intOf i).toNat)
 case atStart=>exact ⟨0,Nat.zero_le _,rfl,Grows.empty w⟩
 case round =>
  obtain ⟨k,hk,rfl,hm⟩:=hrel
  have HR:=Lib.hid hm;clear hm
  by_cases hlt:k < n
  ·obtain ⟨g,off,u,rfl,hgl,hxu,hcx⟩:=HX.out.at_ hlt
   obtain ⟨s,hxs,rfl⟩:=V_at hxu
   obtain ⟨z,hz,hqz,hqd⟩:=Ok.nat OK.out (k:=k) (by rw [LX.out];exact hlt)
   rw [hqz] at hxs
   obtain rfl:=Option.some.inj hxs
   rw [LX.out] at hz
   obtain ⟨g',off',u',rfl,hgl',hyu,hcy⟩:=HY.out.at_ hz
   obtain ⟨t,hyt,rfl⟩:=V_at hyu
   have hgw:g < w.heap.size:=Nat.lt_of_lt_of_le hgl HX.out.2.1
   have hgw':g' < w.heap.size:=Nat.lt_of_lt_of_le hgl' HY.out.2.1
   rw [<-HR.out.below.cell (p:=⟨g,off + k,none⟩) hgw] at hcx
   rw [<-HR.out.below.cell (p:=⟨g',off' + z,none⟩) hgw'] at hcy
   have HQ:=Lib.hid hqz;have HT:=Lib.hid (permOk.getD_of hyt)
   have hsz:=HR.out.below.size
   have HLN:Hid ((thn (xs.take k) ys).length = k):=Lib.hid (by have:=LX.out;simp [thn];omega)
   clear hqz hqd hxs hxu hyu hyt
   go_wp2_with (at_builtin;refine wpList_append_one wr _ _ rfl _ _ 23 rfl w.heap.size 3 i0 _ 8 sqp.underlying23 hi0 hz0 hz1 hz2 rfl _ _ _ rfl HR.out.own rfl rfl ?c4 (by decide) hsz ?_)
   case c4=>rw [HLN.out];omega
   intro v' w' ho hg
   have HN:Hid (Grows w w' v' (thn (xs.take (k + 1)) ys)):=Lib.hid (by
    rw [thn_snoc xs ys HQ.out,HT.out]
    exact HR.out.next ho rfl hg)
   clear ho hg HR hcx hcy
   go_wp2
   go_roundw
   case rel=>exact ⟨k + 1,by omega,by go_num,HN.out⟩
   case measure=>simp [intOf];omega
  ·obtain rfl:k = n:=by omega
   go_wp2
   go_ret
   have:=HR.out
   rw [List.take_of_length_le (by rw [LX.out];exact Nat.le_refl _)] at this
   exact this.gives
set_option maxHeartbeats 1000000 in
theorem l02id_any (n:Nat) (w:World) (hn:n<=24) :
  Calls sqp.prog 93 #[.int .i64 n] w (Gives ((List.range n).map (fun (i:Nat)=>(i:Int))) w):=by
 obtain ⟨i0,hi0,hz0,hz1,hz2⟩:=info_parts infoI
 go_enter sqp.func93,sqp.ntmps93
 go_wp2
 go_loopw [3,4] (fun v i wr=>∃ k:Nat,k<=n/\i = .int .i64 k/\Grows w wr v ((List.range k).map (fun (i:Nat)=>(i:Int)))) (fun _ i _=>n - (intOf i).toNat)
 case atStart=>exact ⟨0,Nat.zero_le _,rfl,Grows.empty w⟩
 case round =>
  obtain ⟨k,hk,rfl,hm⟩:=hrel
  have HR:=Lib.hid hm;clear hm
  by_cases hlt:k < n
  ·have hsz:=HR.out.below.size
   go_wp2_with (at_builtin;refine wpList_append_one wr _ _ rfl _ _ 23 rfl w.heap.size 3 i0 _ 8 sqp.underlying23 hi0 hz0 hz1 hz2 rfl _ _ _ rfl HR.out.own rfl rfl ?c4 (by decide) hsz ?_)
   case c4=>simp;omega
   intro v' w' ho hg
   have HN:Hid (Grows w w' v' ((List.range (k + 1)).map (fun (i:Nat)=>(i:Int)))):=Lib.hid (by
    rw [List.range_succ,List.map_append]
    exact HR.out.next ho (by simp) hg)
   clear ho hg HR
   go_wp2
   go_roundw
   case rel=>exact ⟨k + 1,by omega,by go_num,HN.out⟩
   case measure=>simp [intOf];omega
  ·obtain rfl:k = n:=by omega
   go_wp2
   go_ret
   exact HR.out.gives
end Go.Proofs.Ytgcnemkhppkkcaa.fns

namespace Go.Proofs.Ytgcnemkhppkkcaa.fns
open Go.ChangeShapes Go.WideShapes Go.ChangeAt Go.RowKit
open mem ints arr pm permOk permOf inv
set_option linter.unusedVariables false
set_option maxRecDepth 100000
end Go.Proofs.Ytgcnemkhppkkcaa.fns

namespace Go.Proofs.Ytgcnemkhppkkcaa.mem
open Go.ChangeShapes Go.WideShapes Go.ChangeAt Go.RowKit
set_option linter.unusedVariables false
set_option maxRecDepth 100000
theorem one_where {P:Program} (w:World) (base:Nat) (t ty e:TypeId) (i:TypeInfo) (z:Value) (bytes:Nat) (ht:P.underlying t = some (.slice e)) (hi:P.info? e = some i) (hz:i.zero = some z)
  (hsize:i.size = 1) (hby:i.bytes = bytes) (hzs:z.cells.size = 1) (v:Value) (n:Nat) (xs:List Value) (hown:w.ownsRow base e 1 v n xs)
  (a:Addr) (u:Value) (hu:w.cell? a = some u) (ha:a.add 0 = a) (h1:u.oneCell' = true) (hbytes:(n + 1) * bytes<=140737488355328) (h63:n + 1<=maxLen) {v':Value} {w':World}
  (hr:(Builtin.append_ #[t,t] ty #[v,.slice (some a) 1 1]).run P w = .ok v' w'):v'.ownBlock = v.ownBlock\/∃ k,v'.ownBlock = some k/\w.heap.size<=k:=by
 have hc:∀ j q,[u][j]? = some q->w.cell? (a.add j) = some q:=by
  intro j q hj
  match j,hj with
  | 0,hj=>simp at hj;subst hj;rw [ha];exact hu
 have ho:∀ q ∈ [u],q.oneCell' = true:=by intro q hq;simp at hq;subst hq;exact h1
 have same:∀ {v2:Value} {w2:World},(Builtin.append_ #[t,t] ty #[v,.slice (some a) 1 1]).run P w = .ok v2 w2->v' = v2:=by
  intro v2 w2 h2
  rw [hr] at h2
  injection h2
 rcases hown.2 with ⟨rfl,rfl⟩ | ⟨g,cap,cur,rfl,_⟩
 ·have hn:w.ownsRow w.heap.size e 1 (.slice none 0 0) 0 xs:=⟨hown.1,.inl ⟨rfl,rfl⟩⟩
  obtain ⟨v2,w2,h2,own2,_,ne⟩:=run_append_own (P:=P) w w.heap.size t ty e i z 1 bytes ht hi hz hsize hby hzs (by decide) _ 0 xs hn a 1 1 [u] rfl hc ho h63 hbytes (Nat.le_refl _)
  rw [same h2]
  cases hb:v2.ownBlock with
  | none=>exact .inl rfl
  | some k=>exact .inr ⟨k,rfl,(own2.lt k hb).1⟩
 ·by_cases room:n + 1<=cap
  ·obtain ⟨w2,h2,_⟩:=run_append_fits (P:=P) w base t ty e i 1 ht hi hsize g n cap xs hown a 1 1 [u] rfl hc ho room
   rw [same h2]
   exact .inl rfl
  ·have h2:=run_append_grow (P:=P) w t ty e i z ht hi hz ⟨g,0,none⟩ n cap xs (by rw [hsize];exact hown.1) (hown.cells rfl) a 1 1 [u] (by rw [hsize];rfl) hc (by omega) (by unfold maxLen at h63;omega) (by rw [hby];exact growslice_fits (by omega) hbytes)
   rw [same h2]
   exact .inr ⟨_,rfl,Nat.le_refl _⟩
theorem wpList_append_one2 {P:Program} {ops:Array Oper} {rest:List Oper} {o:Oper} {a:Act} {Q:Exit->Act->World->Prop} (W:World) (u:Value) (ty:TypeId) (hgd:o.guard = none) (s x:Operand) (t:TypeId)
  (ho:o.op = .call { callee:=.builtin .append,args:=#[s,x],argTypes:=#[t,t] })
  (base:Nat) (e:TypeId) (i:TypeInfo) (z:Value) (bytes size:Nat) (ht:P.underlying t = some (.slice e)) (hi:P.info? e = some i) (hz:i.zero = some z)
  (hsize:i.size = size) (hone:size = 1) (hby:i.bytes = bytes) (hzs:z.cells.size = 1)
  (v:Value) (n:Nat) (xs:List Value) (hs:a.eval s = v) (hown:W.ownsRow base e 1 v n xs)
  (hx:a.eval x = .slice (some ⟨W.heap.size,0,none⟩) 1 1) (h1:u.oneCell' = true)
  (hbytes:(n + 1) * bytes<=140737488355328) (hb0:0 < bytes) (hbase:base<=W.heap.size)
  (h:∀ v' w',w'.ownsRow base e 1 v' (n + 1) (xs ++ [u])->W.grownBy w' v.ownBlock->(v'.ownBlock = v.ownBlock\/∃ k,v'.ownBlock = some k/\W.heap.size + 1<=k)->wpList P ops Q rest (a.put o.dst v') w'):wpList P ops Q (o :: rest) a (W.alloc (.cells #[u] ty)):=by
 subst hone
 have h63:n + 1<=maxLen:=by
  have:(n + 1) * 1<=(n + 1) * bytes:=Nat.mul_le_mul_left _ hb0
  unfold maxLen;omega
 have hcell:(W.alloc (.cells #[u] ty)).cell? ⟨W.heap.size,0,none⟩ = some u:=by simp
 have hc:∀ j q,[u][j]? = some q->(W.alloc (.cells #[u] ty)).cell? ((⟨W.heap.size,0,none⟩:Addr).add j) = some q:=by
  intro j q hj
  match j,hj with
  | 0,hj=>simp at hj;subst hj;simp [Addr.add]
 have hu:∀ q ∈ [u],q.oneCell' = true:=by intro q hq;simp at hq;subst hq;exact h1
 obtain ⟨v',w',hr,own',grown',_⟩:=run_append_own (P:=P) (W.alloc (.cells #[u] ty)) base t o.type e i z 1 bytes ht hi hz hsize hby hzs (by decide) v n xs (hown.alloc _) ⟨W.heap.size,0,none⟩ 1 1 [u] rfl hc hu h63 hbytes (by simp;omega)
 have hwh:=one_where (P:=P) (W.alloc (.cells #[u] ty)) base t o.type e i z bytes ht hi hz hsize hby hzs v n xs (hown.alloc _) ⟨W.heap.size,0,none⟩ u hcell (by simp [Addr.add]) h1 hbytes h63 hr
 have hgo:=h v' w' own' (grown_trans (World.grownBy_alloc W _ _) grown') (by simpa using hwh)
 refine wpList_plain hgd fun K hK=>?_
 simp [Oper.wp,execOp,ho,resolve,invoke,builtin,hs,hx,hr]
 exact hK _ _ hgo
end Go.Proofs.Ytgcnemkhppkkcaa.mem
