import Derived.Calls
import Derived.Conc.Own
import Derived.Conc.Events
import Derived.Conc.Listed
import Derived.Conc.LoneCalls
set_option linter.unusedSectionVars false
set_option linter.unusedSimpArgs false
set_option linter.unusedVariables false
set_option linter.unnecessarySimpa false
namespace Go.Proofs.Ytcdclihinmdgiaa.sq
open Go
set_option linter.unusedVariables false
inductive Kd where
 | cells | map | iter | chan | num
 | ro (d:Nat)
 deriving DecidableEq
def Kd.sh:Kd->Nat
 | .ro d=>d
 | _=>0
def Kd.qdi:Kd->Bool
 | .ro _=>true
 | _=>false
abbrev Bl:=Nat->Nat->Kd->Prop
structure Inj (β:Bl):Prop where
 fn:∀ {a b b' k k'},β a b k->β a b' k'->b = b'/\k = k'
 inj:∀ {a a' b k k'},β a b k->β a' b k'->a = a'\/(k.qdi = true/\k'.qdi = true)
def one:Value->Bool
 | .agg _ | .tuple _=>false
 | _=>true
def nfn:Nat:=102
def wh:Nat:=36
def qoh:Nat:=59
def qd2:Nat:=16
class Cal where
 ok:FuncId->Bool
 ent:FuncId->Bool
 lt:∀ {f:FuncId},ok f = true->f < nfn
 no:ok wh = false
 old:Nat
 win:Bool
theorem qco [Cal] {f:FuncId} (h:nfn<=f):Cal.ok f = false:=by
 cases e:Cal.ok f with
 | false=>rfl
 | true=>exact absurd (Cal.lt e) (Nat.not_lt.2 h)
def Ent [Cal] (f:FuncId):Prop:=Cal.ok f = true\/Cal.ent f = true
variable [Cal]
inductive VR (β:Bl):Value->Value->Prop
 | bool (b:Bool):VR β (.bool b) (.bool b)
 | int (k:IntKind) (n:Int):VR β (.int k n) (.int k n)
 | string (s:ByteArray):VR β (.string s) (.string s)
 | ptr0:VR β (.pointer none) (.pointer none)
 | ptr {a b:Nat} {k:Kd} (o:Nat) (s:Option Nat) (h:β a b k):VR β (.pointer (some ⟨a,o,s⟩)) (.pointer (some ⟨b,o + k.sh,s⟩))
 | slice0 (n c:Nat):VR β (.slice none n c) (.slice none n c)
 | slice {a b:Nat} {k:Kd} (o:Nat) (s:Option Nat) (n c:Nat) (h:β a b k):VR β (.slice (some ⟨a,o,s⟩) n c) (.slice (some ⟨b,o + k.sh,s⟩) n c)
 | map0:VR β (.map none) (.map none)
 | map {a b:Nat} {k:Kd} (h:β a b k):VR β (.map (some a)) (.map (some b))
 | chan0:VR β (.chan none) (.chan none)
 | chan {a b:Nat} {k:Kd} (h:β a b k):VR β (.chan (some a)) (.chan (some b))
 | func (f:FuncId) (hf:Cal.ok f = true) {xs ys xs' ys':Array Value} (h1:xs.size = xs'.size) (h2:∀ (i:Nat) (v v':Value),xs[i]? = some v->xs'[i]? = some v'->VR β v v')
   (h3:ys.size = ys'.size) (h4:∀ (i:Nat) (v v':Value),ys[i]? = some v->ys'[i]? = some v'->VR β v v'):VR β (.func (.func f) xs ys) (.func (.func f) xs' ys')
 | nilFunc:VR β .nilFunc .nilFunc
 | agg {xs xs':Array Value} (h1:xs.size = xs'.size) (h2:∀ (i:Nat) (v v':Value),xs[i]? = some v->xs'[i]? = some v'->VR β v v'):VR β (.agg xs) (.agg xs')
 | tuple {xs xs':Array Value} (h1:xs.size = xs'.size) (h2:∀ (i:Nat) (v v':Value),xs[i]? = some v->xs'[i]? = some v'->VR β v v'):VR β (.tuple xs) (.tuple xs')
structure AR (β:Bl) (xs ys:Array Value):Prop where
 size:xs.size = ys.size
 at_:∀ (i:Nat) (v v':Value),xs[i]? = some v->ys[i]? = some v'->VR β v v'
theorem VR.mono {β β':Bl} (hb:∀ a b k,β a b k->β' a b k) {v v':Value} (h:VR β v v'):VR β' v v':=by
 induction h with
 | bool b=>exact .bool b
 | int k n=>exact .int k n
 | string s=>exact .string s
 | ptr0=>exact .ptr0
 | ptr o s h=>exact .ptr o s (hb _ _ _ h)
 | slice0 n c=>exact .slice0 n c
 | slice o s n c h=>exact .slice o s n c (hb _ _ _ h)
 | map0=>exact .map0
 | map h=>exact .map (hb _ _ _ h)
 | chan0=>exact .chan0
 | chan h=>exact .chan (hb _ _ _ h)
 | func f hf h1 _ h3 _ i1 i2=>exact .func f hf h1 i1 h3 i2
 | nilFunc=>exact .nilFunc
 | agg h1 _ i1=>exact .agg h1 i1
 | tuple h1 _ i1=>exact .tuple h1 i1
section
variable {β β':Bl}
theorem AR.mono (hb:∀ a b k,β a b k->β' a b k) {xs ys:Array Value} (h:AR β xs ys):AR β' xs ys:=⟨h.size,fun i v v' h1 h2=>(h.at_ i v v' h1 h2).mono hb⟩
theorem AR.agg {xs ys:Array Value} (h:AR β xs ys):VR β (.agg xs) (.agg ys):=.agg h.size h.at_
theorem AR.tuple {xs ys:Array Value} (h:AR β xs ys):VR β (.tuple xs) (.tuple ys):=.tuple h.size h.at_
theorem AR.get {xs ys:Array Value} (h:AR β xs ys) {i:Nat} {v:Value} (hv:xs[i]? = some v):∃ v',ys[i]? = some v'/\VR β v v':=by
 have hi:i < ys.size:=by rw [<-h.size];exact (Array.getElem?_eq_some_iff.1 hv).1
 exact ⟨ys[i],Array.getElem?_eq_getElem hi,h.at_ i _ _ hv (Array.getElem?_eq_getElem hi)⟩
theorem AR.none {xs ys:Array Value} (h:AR β xs ys) {i:Nat} (hv:xs[i]? = none):ys[i]? = none:=by
 rw [Array.getElem?_eq_none_iff] at hv ⊢;rw [<-h.size];exact hv
theorem AR.nil:AR β #[] #[]:=⟨rfl,fun i v v' h=>by simp at h⟩
theorem AR.push {xs ys:Array Value} (h:AR β xs ys) {v v':Value} (hv:VR β v v'):AR β (xs.push v) (ys.push v'):=by
 refine ⟨by simp [h.size],fun i u u' h1 h2=>?_⟩
 rw [Array.getElem?_push] at h1 h2
 rw [h.size] at h1
 split at h1
 ·rename_i e
  rw [if_pos e] at h2
  cases h1;cases h2;exact hv
 ·rename_i e
  rw [if_neg e] at h2
  exact h.at_ i u u' h1 h2
theorem AR.app {xs ys xs' ys':Array Value} (h:AR β xs ys) (h':AR β xs' ys'):AR β (xs ++ xs') (ys ++ ys'):=by
 refine ⟨by simp [h.size,h'.size],fun i u u' h1 h2=>?_⟩
 rw [Array.getElem?_append] at h1 h2
 rw [h.size] at h1
 split at h1
 ·rename_i e;rw [if_pos e] at h2;exact h.at_ i u u' h1 h2
 ·rename_i e;rw [if_neg e] at h2;exact h'.at_ _ u u' h1 h2
theorem AR.set {xs ys:Array Value} (h:AR β xs ys) (i:Nat) {v v':Value} (hv:VR β v v'):AR β (xs.setIfInBounds i v) (ys.setIfInBounds i v'):=by
 refine ⟨by simp [h.size],fun j u u' h1 h2=>?_⟩
 rw [Array.getElem?_setIfInBounds] at h1 h2
 rw [h.size] at h1
 split at h1
 ·rename_i e
  rw [if_pos e] at h2
  split at h1
  ·rename_i e2;rw [if_pos e2] at h2;cases h1;cases h2;exact hv
  ·cases h1
 ·rename_i e;rw [if_neg e] at h2;exact h.at_ j u u' h1 h2
theorem AR.extract {xs ys:Array Value} (h:AR β xs ys) (a b:Nat):AR β (xs.extract a b) (ys.extract a b):=by
 refine ⟨by simp [h.size],fun i u u' h1 h2=>?_⟩
 rw [Array.getElem?_extract] at h1 h2
 rw [h.size] at h1
 split at h1
 ·rename_i e;rw [if_pos e] at h2;exact h.at_ _ u u' h1 h2
 ·cases h1
theorem AR.replicate (n:Nat) {v v':Value} (hv:VR β v v'):AR β (Array.replicate n v) (Array.replicate n v'):=by
 refine ⟨by simp,fun i u u' h1 h2=>?_⟩
 rw [Array.getElem?_replicate] at h1 h2
 split at h1
 ·rename_i e;rw [if_pos e] at h2;cases h1;cases h2;exact hv
 ·cases h1
theorem AR.one {v v':Value} (hv:VR β v v'):AR β #[v] #[v']:=by
 have:=AR.push (AR.nil (β:=β)) hv
 simpa using this
theorem VR.qz3 {v v':Value} (h:VR β v v'):one v = one v':=by
 cases h <;> rfl
theorem VR.cells {v v':Value} (h:VR β v v'):AR β v.cells v'.cells:=by
 have h0:=h
 cases h with
 | agg h1 h2=>exact ⟨h1,h2⟩
 | _=>exact .one h0
theorem AR.map {α:Type} {xs:Array α} {f g:α->Value} (h:∀ x ∈ xs,VR β (f x) (g x)):AR β (xs.map f) (xs.map g):=by
 refine ⟨by simp,fun i u u' h1 h2=>?_⟩
 rw [Array.getElem?_map,Option.map_eq_some_iff] at h1 h2
 obtain ⟨x,hx,rfl⟩:=h1
 obtain ⟨y,hy,rfl⟩:=h2
 rw [hx] at hy;cases hy
 exact h x (Array.mem_of_getElem? hx)
inductive LR (β:Bl):List Value->List Value->Prop
 | nil:LR β [] []
 | cons {v v':Value} {l l':List Value} (h:VR β v v') (t:LR β l l'):LR β (v :: l) (v' :: l')
theorem LR.of {l l':List Value} (hs:l.length = l'.length) (h:∀ (i:Nat) (v v':Value),l[i]? = some v->l'[i]? = some v'->VR β v v'):LR β l l':=by
 induction l generalizing l' with
 | nil=>cases l' with
  | nil=>exact .nil
  | cons a l'=>simp at hs
 | cons v l ih=>cases l' with
  | nil=>simp at hs
  | cons v' l'=>exact .cons (h 0 _ _ rfl rfl) (ih (by simpa using hs) fun i u u' h1 h2=>h (i + 1) u u' (by simpa using h1) (by simpa using h2))
theorem LR.size {l l':List Value} (h:LR β l l'):l.length = l'.length:=by
 induction h with
 | nil=>rfl
 | cons _ _ ih=>simp [ih]
theorem LR.at_ {l l':List Value} (h:LR β l l'):∀ (i:Nat) (v v':Value),l[i]? = some v->l'[i]? = some v'->VR β v v':=by
 induction h with
 | nil=>intro i v v' h1;simp at h1
 | cons hv _ ih =>
  intro i v v' h1 h2
  cases i with
  | zero=>simp at h1 h2;subst h1;subst h2;exact hv
  | succ i=>exact ih i v v' (by simpa using h1) (by simpa using h2)
theorem LR.mono (hb:∀ a b k,β a b k->β' a b k) {l l':List Value} (h:LR β l l'):LR β' l l':=by
 induction h with
 | nil=>exact .nil
 | cons hv _ ih=>exact .cons (hv.mono hb) ih
theorem AR.toList {xs ys:Array Value} (h:AR β xs ys):LR β xs.toList ys.toList :=
 .of (by simpa using h.size) fun i v v' h1 h2=>h.at_ i v v' (by simpa using h1) (by simpa using h2)
theorem AR.ofList {l l':List Value} (h:LR β l l'):AR β l.toArray l'.toArray :=
 ⟨by simpa using h.size,fun i v v' h1 h2=>h.at_ i v v' (by simpa using h1) (by simpa using h2)⟩
def clo:Nat->Value->Bool
 | 0,_=>false
 | n + 1,v =>
  match v with
  | .bool _ | .int _ _ | .string _ | .pointer none | .slice none _ _ | .map none | .chan none | .nilFunc=>true
  | .agg xs | .tuple xs=>xs.all (clo n)
  | _=>false
theorem qcd:∀ (n:Nat) (v:Value),clo n v = true->VR β v v:=by
 intro n
 induction n with
 | zero=>intro v h;simp [clo] at h
 | succ n ih =>
  intro v h
  unfold clo at h
  have row:∀ (xs:Array Value),xs.all (clo n) = true->∀ (i:Nat) (u u':Value),xs[i]? = some u->xs[i]? = some u'->VR β u u':=by
   intro xs hx i u u' h1 h2
   rw [h1] at h2;cases h2
   exact ih u (by rw [Array.all_eq_true_iff_forall_mem] at hx;exact hx u (Array.mem_of_getElem? h1))
  split at h
  ·exact .bool _
  ·exact .int _ _
  ·exact .string _
  ·exact .ptr0
  ·exact .slice0 _ _
  ·exact .map0
  ·exact .chan0
  ·exact .nilFunc
  ·exact .agg rfl (row _ h)
  ·exact .tuple rfl (row _ h)
  ·cases h
end
end Go.Proofs.Ytcdclihinmdgiaa.sq
namespace Go.Proofs.Ytcdclihinmdgiaa.sq
open Go
set_option linter.unusedVariables false
variable [Cal]
structure ER (β:Bl) (e e':MapEntry):Prop where
 key:VR β e.key e'.key
 val:VR β e.val e'.val
 born:e.born = e'.born
def qt4:TypeId:=1000000000
inductive OR (β:Bl):Kd->Obj->Obj->Prop
 | cells {c c':Array Value} (e:TypeId) (fz:Nat × Nat) (h:AR β c c'):OR β .cells (.cells c e fz) (.cells c' e fz)
 | map {es es':Array MapEntry} (t:Nat) (hs:es.size = es'.size) (h:∀ (i:Nat) (e e':MapEntry),es[i]? = some e->es'[i]? = some e'->ER β e e'):OR β .map (.map es t) (.map es' t)
 | mapIter0 (s:Nat) (seen:Array Nat) (st:Nat):OR β .iter (.mapIter none s seen st) (.mapIter none s seen st)
 | mapIter {a b:Nat} {k:Kd} (s:Nat) (seen:Array Nat) (st:Nat) (h:β a b k):OR β .iter (.mapIter (some a) s seen st) (.mapIter (some b) s seen st)
 | stringIter (s:ByteArray) (pos:Nat):OR β .iter (.stringIter s pos) (.stringIter s pos)
 | chan (c c':Nat) (b b':Array Value) (x x':Bool) (s s' r r':Nat) (t t':Bool) (hb:∀ v ∈ b,clo 20 v = true):OR β .chan (.chan c b x s r t) (.chan c' b' x' s' r' t')
 | ro {c c':Array Value} {d:Nat} (hw:Cal.win = true) (e:TypeId) (fz:Nat × Nat) (h:∀ (i:Nat) (v:Value),c[i]? = some v->∃ v',c'[i + d]? = some v'/\VR β v v'):OR β (.ro d) (.cells c qt4 (0,c.size)) (.cells c' e fz)
 | num {a a':Addr} {k:Kd} (l:Bool) (hb:β a.block a'.block k) (ho:a'.off = a.off + k.sh) (hs:a'.spot = a.spot):OR β .num (.number a l) (.number a' l)
def Ext (β β':Bl):Prop:=∀ a b k,β a b k->β' a b k
theorem Ext.refl (β:Bl):Ext β β:=fun _ _ _ h=>h
theorem Ext.trans {β β' β'':Bl} (h:Ext β β') (h':Ext β' β''):Ext β β'':=fun a b k x=>h' a b k (h a b k x)
theorem ER.mono {β β':Bl} (hb:Ext β β') {e e':MapEntry} (h:ER β e e'):ER β' e e':=⟨h.key.mono hb,h.val.mono hb,h.born⟩
theorem OR.mono {β β':Bl} (hb:Ext β β') {k:Kd} {o o':Obj} (h:OR β k o o'):OR β' k o o':=by
 cases h with
 | cells e fz h=>exact .cells e fz (h.mono hb)
 | map t hs h=>exact .map t hs fun i e e' h1 h2=>(h i e e' h1 h2).mono hb
 | mapIter0 s seen st=>exact .mapIter0 s seen st
 | mapIter s seen st h=>exact .mapIter s seen st (hb _ _ _ h)
 | stringIter s pos=>exact .stringIter s pos
 | chan _ _ _ _ _ _ _ _ _ _ _ _ hb=>exact .chan _ _ _ _ _ _ _ _ _ _ _ _ hb
 | num l h h1 h2=>exact .num l (hb _ _ _ h) h1 h2
 | ro hw e fz h=>exact .ro hw e fz fun i v hv=>let ⟨v',h1,h2⟩:=h i v hv;⟨v',h1,h2.mono hb⟩
structure HR (β:Bl) (w W:World):Prop where
 inj:Inj β
 at_:∀ a b k,β a b k->∃ o o',w.heap[a]? = some o/\W.heap[b]? = some o'/\OR β k o o'
section
variable {β:Bl} {w W:World}
theorem HR.lt (h:HR β w W) {a b:Nat} {k:Kd} (hb:β a b k):a < w.heap.size/\b < W.heap.size:=by
 obtain ⟨o,o',h1,h2,_⟩:=h.at_ a b k hb
 exact ⟨(Array.getElem?_eq_some_iff.1 h1).1,(Array.getElem?_eq_some_iff.1 h2).1⟩
theorem HR.cell (h:HR β w W) {a b:Nat} {k:Kd} (hb:β a b k) {o:Nat} {s:Option Nat} {v:Value} (hv:w.cell? ⟨a,o,s⟩ = some v):(k = .cells\/k.qdi = true/\w.frozen? ⟨a,o,s⟩ = true)/\∃ v',W.cell? ⟨b,o + k.sh,s⟩ = some v'/\VR β v v':=by
 obtain ⟨x,x',h1,h2,ho⟩:=h.at_ a b k hb
 unfold World.cell? at hv ⊢
 simp only [h1,h2] at hv ⊢
 cases ho with
 | cells e fz ha =>
  simp only at hv ⊢
  split at hv
  ·cases hv
  ·rename_i hs
   rw [if_neg hs]
   exact ⟨.inl trivial,ha.get hv⟩
 | @ro c c' d hw e fz ha =>
  simp only at hv ⊢
  split at hv
  ·cases hv
  ·rename_i hs
   rw [if_neg hs]
   refine ⟨.inr ⟨rfl,?_⟩,ha _ _ hv⟩
   have:=(Array.getElem?_eq_some_iff.1 hv).1
   unfold World.frozen?
   simp only [h1]
   simp [this]
 | _=>cases hv
theorem HR.far (h:HR β w W) {a b:Nat} {k:Kd} (hb:β a b k) {o:Nat} {s:Option Nat} (P:Program) (m:Bool):∃ e,w.farLoad P ⟨a,o,s⟩ m = .error e/\((∃ u,e = .stuck u)\/∃ u,e = .unsupported (.unsafePointer u)):=by
 obtain ⟨x,x',h1,h2,ho⟩:=h.at_ a b k hb
 unfold World.farLoad World.noCell
 simp only [h1]
 cases ho <;> exact ⟨_,rfl,.inl ⟨_,rfl⟩⟩
theorem HR.q3y (h:HR β w W) {a b:Nat} {k:Kd} (hb:β a b k) {o:Nat} {s:Option Nat} (P:Program) (v:Value) (m:Bool):∃ e,w.farStore P ⟨a,o,s⟩ v m = .error e/\((∃ u,e = .stuck u)\/∃ u,e = .unsupported (.unsafePointer u)):=by
 obtain ⟨x,x',h1,h2,ho⟩:=h.at_ a b k hb
 unfold World.farStore World.noCell
 simp only [h1]
 cases ho <;> exact ⟨_,rfl,.inl ⟨_,rfl⟩⟩
theorem HR.frozen (h:HR β w W) {a b:Nat} (hb:β a b .cells) (o:Nat) (s s':Option Nat):w.frozen? ⟨a,o,s⟩ = W.frozen? ⟨b,o,s'⟩:=by
 obtain ⟨x,x',h1,h2,ho⟩:=h.at_ a b .cells hb
 unfold World.frozen?
 simp only [h1,h2]
 cases ho with | cells e fz ha=>rfl
theorem HR.frz (h:HR β w W) (hw:Cal.win = false) {a b:Nat} {k:Kd} (hb:β a b k) (o:Nat) (s s':Option Nat):k.qdi = false/\w.frozen? ⟨a,o,s⟩ = W.frozen? ⟨b,o + k.sh,s'⟩:=by
 obtain ⟨x,x',h1,h2,ho⟩:=h.at_ a b k hb
 unfold World.frozen?
 simp only [h1,h2]
 cases ho with
 | ro hw'=>rw [hw] at hw';cases hw'
 | _=>exact ⟨rfl,rfl⟩
def ShR (k:Kd) (s s':Option (TypeId × Nat)):Prop:=(k.qdi = false/\s' = s)\/(k.qdi = true/\(∃ n,s = some (qt4,n))/\s'.isSome = true)
theorem HR.shape (h:HR β w W) {a b:Nat} {k:Kd} (hb:β a b k):ShR k (w.shape? a) (W.shape? b):=by
 obtain ⟨x,x',h1,h2,ho⟩:=h.at_ a b k hb
 unfold World.shape?
 simp only [h1,h2]
 cases ho with
 | cells e fz ha=>exact .inl ⟨rfl,by simp [ha.size]⟩
 | ro hw e fz ha=>exact .inr ⟨rfl,⟨_,rfl⟩,rfl⟩
 | _=>exact .inl ⟨rfl,rfl⟩
theorem HR.modify (h:HR β w W) {a b:Nat} {k:Kd} (hb:β a b k) (hk:k.qdi = false) {f g:Obj->Obj} (hf:∀ o o',w.heap[a]? = some o->W.heap[b]? = some o'->OR β k o o'->OR β k (f o) (g o')) :
  HR β { w with heap:=w.heap.modify a f } { W with heap:=W.heap.modify b g }:=by
 refine ⟨h.inj,fun x y k' hx=>?_⟩
 obtain ⟨o,o',h1,h2,ho⟩:=h.at_ x y k' hx
 simp only [Array.getElem?_modify]
 by_cases e:a = x
 ·subst e
  obtain ⟨rfl,rfl⟩:=h.inj.fn hb hx
  exact ⟨f o,g o',by simp [h1],by simp [h2],hf o o' h1 h2 ho⟩
 ·have e':b ≠ y:=fun q=>by
   subst q
   rcases h.inj.inj hb hx with z | ⟨z,_⟩
   ·exact e z
   ·rw [hk] at z;cases z
  rw [if_neg e,if_neg e']
  exact ⟨o,o',h1,h2,ho⟩
theorem HR.setCell (h:HR β w W) {a b:Nat} (hb:β a b .cells) (o:Nat) (s:Option Nat) {v v':Value} (hv:VR β v v'):HR β (w.setCell ⟨a,o,s⟩ v) (W.setCell ⟨b,o,s⟩ v'):=by
 unfold World.setCell
 refine h.modify hb rfl fun x x' _ _ ho=>?_
 cases ho with
 | cells e fz ha =>
  simp only
  split
  ·exact .cells e fz ha
  ·exact .cells e fz (ha.set _ hv)
theorem HR.freeze (h:HR β w W) {a b:Nat} (hb:β a b .cells) (o:Nat) (s s':Option Nat) (n:Nat):HR β (w.freeze ⟨a,o,s⟩ n) (W.freeze ⟨b,o,s'⟩ n):=by
 unfold World.freeze
 split
 ·exact h
 ·refine h.modify hb rfl fun x x' _ _ ho=>?_
  cases ho with
  | cells e fz ha=>exact .cells e _ ha
theorem HR.setObj (h:HR β w W) {a b:Nat} {k:Kd} (hb:β a b k) (hk:k.qdi = false) {o o':Obj} (ho:OR β k o o'):HR β { w with heap:=w.heap.setIfInBounds a o } { W with heap:=W.heap.setIfInBounds b o' }:=by
 refine ⟨h.inj,fun x y k' hx=>?_⟩
 obtain ⟨p,p',h1,h2,hp⟩:=h.at_ x y k' hx
 have lt:=h.lt hx
 simp only [Array.getElem?_setIfInBounds]
 by_cases e:a = x
 ·subst e
  obtain ⟨rfl,rfl⟩:=h.inj.fn hb hx
  exact ⟨o,o',by simp [lt.1],by simp [lt.2],ho⟩
 ·have e':b ≠ y:=fun q=>by
   subst q
   rcases h.inj.inj hb hx with z | ⟨z,_⟩
   ·exact e z
   ·rw [hk] at z;cases z
  rw [if_neg e,if_neg e']
  exact ⟨p,p',h1,h2,hp⟩
def Bl.new (β:Bl) (a b:Nat) (k:Kd):Bl:=fun x y z=>β x y z\/(x = a/\y = b/\z = k)
theorem HR.new (h:HR β w W) {k:Kd} {o o':Obj} (ho:OR β k o o'):HR (β.new w.heap.size W.heap.size k) { w with heap:=w.heap.push o } { W with heap:=W.heap.push o' }:=by
 have ex:Ext β (β.new w.heap.size W.heap.size k):=fun _ _ _ x=>.inl x
 refine ⟨⟨?_,?_⟩,?_⟩
 ·rintro a b b' k1 k2 (x | ⟨rfl,rfl,rfl⟩) (y | ⟨e,rfl,rfl⟩)
  ·exact h.inj.fn x y
  ·have:=(h.lt x).1;omega
  ·have:=(h.lt y).1;omega
  ·exact ⟨rfl,rfl⟩
 ·rintro a a' b k1 k2 (x | ⟨rfl,rfl,rfl⟩) (y | ⟨rfl,e,rfl⟩)
  ·exact h.inj.inj x y
  ·have:=(h.lt x).2;omega
  ·have:=(h.lt y).2;omega
  ·exact .inl rfl
 ·rintro a b k1 (x | ⟨rfl,rfl,rfl⟩)
  ·obtain ⟨p,p',h1,h2,hp⟩:=h.at_ a b k1 x
   have lt:=h.lt x
   refine ⟨p,p',?_,?_,hp.mono ex⟩
   ·rw [Array.getElem?_push,if_neg (by omega)];exact h1
   ·rw [Array.getElem?_push,if_neg (by omega)];exact h2
  ·exact ⟨o,o',by simp,by simp,ho.mono ex⟩
end
end Go.Proofs.Ytcdclihinmdgiaa.sq
namespace Go.Proofs.Ytcdclihinmdgiaa.sq
open Go
set_option linter.unusedVariables false
variable [Cal]
def qvy:Halt->Prop
 | .panic _ | .stuck _=>True
 | .unsupported (.initOrder _)=>False
 | .unsupported _=>True
 | _=>False
def Dead {α:Type} (P:Program) (s:Sem α):Prop:=∀ w,∃ h w',s.run P w = .halt h w'/\qvy h
inductive yc {α:Type}:Sem α->Prop
 | pure (a:α):yc (.pure a)
 | load {m:Mode} {a:Addr} {c:Value->Sem α} (h:∀ v,yc (c v)):yc (.load m a c)
 | store {m:Mode} {a:Addr} {v:Value} {c:Sem α} (h:yc c):yc (.store m a v c)
 | new {o:Obj} {c:Nat->Sem α} (h:∀ r,yc (c r)):yc (.new o c)
 | shape {r:Nat} {c:Option (TypeId × Nat)->Sem α} (h:∀ s,yc (c s)):yc (.shape r c)
 | freeze {a:Addr} {n:Nat} {c:Sem α} (h:yc c):yc (.freeze a n c)
 | getObj {r:Nat} {c:Obj->Sem α} (h:∀ o,yc (c o)):yc (.getObj r c)
 | setObj {r:Nat} {o:Obj} {c:Sem α} (h:yc c):yc (.setObj r o c)
 | program {c:Program->Sem α} (h:∀ p,yc (c p)):yc (.program c)
 | mark {m:Mark} {c:Sem α} (h:yc c):yc (.mark m c)
inductive SRf (Pa Pr:Program) (fl:Bool) {α α':Type} (RA:Bl->α->α'->Prop):Bl->Sem α->Sem α'->Prop
 | pure {β:Bl} {a:α} {a':α'} (h:RA β a a'):SRf Pa Pr fl RA β (.pure a) (.pure a')
 | load {β:Bl} {a b:Nat} {k:Kd} {o:Nat} {s:Option Nat} {c:Value->Sem α} {c':Value->Sem α'} (hb:β a b k) (h:∀ v v',VR β v v'->SRf Pa Pr fl RA β (c v) (c' v')):SRf Pa Pr fl RA β (.load .plain ⟨a,o,s⟩ c) (.load .plain ⟨b,o + k.sh,s⟩ c')
 | store {β:Bl} {a b:Nat} {k:Kd} {o:Nat} {s:Option Nat} {v v':Value} {c:Sem α} {c':Sem α'} (hb:β a b k) (hv:VR β v v') (h:SRf Pa Pr fl RA β c c'):SRf Pa Pr fl RA β (.store .plain ⟨a,o,s⟩ v c) (.store .plain ⟨b,o + k.sh,s⟩ v' c')
 | new {β:Bl} {k:Kd} {o o':Obj} {c:Nat->Sem α} {c':Nat->Sem α'} (ho:OR β k o o') (hk:k ≠ .chan) (h:∀ β' a b,Ext β β'->β' a b k->SRf Pa Pr fl RA β' (c a) (c' b)):SRf Pa Pr fl RA β (.new o c) (.new o' c')
 | shape {β:Bl} {a b:Nat} {k:Kd} {c:Option (TypeId × Nat)->Sem α} {c':Option (TypeId × Nat)->Sem α'} (hb:β a b k) (h:∀ s s',ShR k s s'->SRf Pa Pr fl RA β (c s) (c' s')):SRf Pa Pr fl RA β (.shape a c) (.shape b c')
 | freeze {β:Bl} {a b:Nat} {o n:Nat} {s s':Option Nat} {c:Sem α} {c':Sem α'} (hb:β a b .cells) (h:SRf Pa Pr fl RA β c c'):SRf Pa Pr fl RA β (.freeze ⟨a,o,s⟩ n c) (.freeze ⟨b,o,s'⟩ n c')
 | frozen {β:Bl} {a b:Nat} {k:Kd} {o:Nat} {s s':Option Nat} {c:Bool->Sem α} {c':Bool->Sem α'} (hw:Cal.win = false) (hb:β a b k) (h:∀ x,k.qdi = false->SRf Pa Pr fl RA β (c x) (c' x)):SRf Pa Pr fl RA β (.frozen ⟨a,o,s⟩ c) (.frozen ⟨b,o + k.sh,s'⟩ c')
 | getObj {β:Bl} {a b:Nat} {k:Kd} {c:Obj->Sem α} {c':Obj->Sem α'} (hb:β a b k) (h:∀ o o',OR β k o o'->SRf Pa Pr fl RA β (c o) (c' o')):SRf Pa Pr fl RA β (.getObj a c) (.getObj b c')
 | getBad {β:Bl} {a b:Nat} {k:Kd} {c:Obj->Sem α} {s':Sem α'} (hb:β a b k) (hk:k.qdi = true):SRf Pa Pr fl RA β (.getObj a c) s'
 | setObj {β:Bl} {a b:Nat} {k:Kd} {o o':Obj} {c:Sem α} {c':Sem α'} (hb:β a b k) (hk:k = .map\/k = .iter) (ho:OR β k o o') (h:SRf Pa Pr fl RA β c c'):SRf Pa Pr fl RA β (.setObj a o c) (.setObj b o' c')
 | choose {β:Bl} {q:Question} {c:Nat->Sem α} {c':Nat->Sem α'} (h:∀ n,SRf Pa Pr fl RA β (c n) (c' n)):SRf Pa Pr fl RA β (.choose q c) (.choose q c')
 | chooseL {β:Bl} {q:Question} {c:Nat->Sem α} {s':Sem α'} (hf:fl = true) (hn:yc s') (h:∀ n,SRf Pa Pr fl RA β (c n) s'):SRf Pa Pr fl RA β (.choose q c) s'
 | chooseR {β:Bl} {q:Question} {s:Sem α} {c':Nat->Sem α'} (hf:fl = true) (hn:∀ n,yc (c' n)) (h:∀ n,SRf Pa Pr fl RA β s (c' n)):SRf Pa Pr fl RA β s (.choose q c')
 | program {β:Bl} {c:Program->Sem α} {c':Program->Sem α'} (h:SRf Pa Pr fl RA β (c Pa) (c' Pr)):SRf Pa Pr fl RA β (.program c) (.program c')
 | mark {β:Bl} {m:Mark} {c:Sem α} {c':Sem α'} (hm:m = .noRoom\/∃ f,m = .extern f) (h:SRf Pa Pr fl RA β c c'):SRf Pa Pr fl RA β (.mark m c) (.mark m c')
 | dead {β:Bl} {s:Sem α} {s':Sem α'} (h:Dead Pa s):SRf Pa Pr fl RA β s s'
 | inj {β:Bl} {s:Sem α} {s':Sem α'} (h:Inj β->SRf Pa Pr fl RA β s s'):SRf Pa Pr fl RA β s s'
abbrev SR (Pa Pr:Program) {α α':Type} (RA:Bl->α->α'->Prop) (β:Bl) (s:Sem α) (s':Sem α'):Prop:=SRf Pa Pr false RA β s s'
section
variable {Pa Pr:Program} {α α' γ γ':Type}
theorem Dead.bind {s:Sem α} (h:Dead Pa s) (f:α->Sem γ):Dead Pa (s.bind f):=fun w=>by
 obtain ⟨x,w',h1,h2⟩:=h w
 refine ⟨x,w',?_,h2⟩
 have:=Sem.run_bind' Pa s f w
 rw [h1] at this
 simpa using this
theorem Dead.halt {h:Halt} (m:qvy h):Dead (α:=α) Pa (.halt h):=fun w=>⟨h,w,rfl,m⟩
theorem SRf.bind {fl:Bool} {RA:Bl->α->α'->Prop} {RB:Bl->γ->γ'->Prop} {β:Bl} {s:Sem α} {s':Sem α'} (h:SRf Pa Pr false RA β s s') :
  ∀ {f:α->Sem γ} {f':α'->Sem γ'},(∀ β' a a',Ext β β'->RA β' a a'->SRf Pa Pr fl RB β' (f a) (f' a'))->SRf Pa Pr fl RB β (s.bind f) (s'.bind f'):=by
 induction h with
 | pure h=>intro f f' hf;exact hf _ _ _ (Ext.refl _) h
 | load hb _ ih=>intro f f' hf;exact .load hb fun v v' hv=>ih v v' hv hf
 | store hb hv _ ih=>intro f f' hf;exact .store hb hv (ih hf)
 | new ho hk _ ih=>intro f f' hf;exact .new ho hk fun β' a b e hb=>ih β' a b e hb fun β'' x x' e' hx=>hf β'' x x' (e.trans e') hx
 | shape hb _ ih=>intro f f' hf;exact .shape hb fun s s' hs=>ih s s' hs hf
 | freeze hb _ ih=>intro f f' hf;exact .freeze hb (ih hf)
 | frozen hw hb _ ih=>intro f f' hf;exact .frozen hw hb fun x hx=>ih x hx hf
 | getObj hb _ ih=>intro f f' hf;exact .getObj hb (fun o o' ho=>ih o o' ho hf)
 | getBad hb hk=>intro f f' hf;exact .getBad hb hk
 | setObj hb hk ho _ ih=>intro f f' hf;exact .setObj hb hk ho (ih hf)
 | choose _ ih=>intro f f' hf;exact .choose fun n=>ih n hf
 | chooseL hf _ _ _=>cases hf
 | chooseR hf _ _ _=>cases hf
 | program _ ih=>intro f f' hf;exact .program (ih hf)
 | mark hm _ ih=>intro f f' hf;exact .mark hm (ih hf)
 | dead h=>intro f f' hf;exact .dead (h.bind f)
 | inj _ ih=>intro f f' hf;exact .inj fun hi=>ih hi hf
theorem SR.bind {RA:Bl->α->α'->Prop} {RB:Bl->γ->γ'->Prop} {β:Bl} {s:Sem α} {s':Sem α'} (h:SR Pa Pr RA β s s')
  {f:α->Sem γ} {f':α'->Sem γ'} (hf:∀ β' a a',Ext β β'->RA β' a a'->SR Pa Pr RB β' (f a) (f' a')):SR Pa Pr RB β (s.bind f) (s'.bind f'):=SRf.bind h hf
theorem SR.lift {RA:Bl->α->α'->Prop} {β:Bl} {s:Sem α} {s':Sem α'} (h:SR Pa Pr RA β s s') (fl:Bool):SRf Pa Pr fl RA β s s':=by
 induction h with
 | pure h=>exact .pure h
 | load hb _ ih=>exact .load hb ih
 | store hb hv _ ih=>exact .store hb hv ih
 | new ho hk _ ih=>exact .new ho hk ih
 | shape hb _ ih=>exact .shape hb ih
 | freeze hb _ ih=>exact .freeze hb ih
 | frozen hw hb _ ih=>exact .frozen hw hb ih
 | getObj hb _ ih=>exact .getObj hb ih
 | getBad hb hk=>exact .getBad hb hk
 | setObj hb hk ho _ ih=>exact .setObj hb hk ho ih
 | choose _ ih=>exact .choose ih
 | chooseL hf _ _ _=>cases hf
 | chooseR hf _ _ _=>cases hf
 | program _ ih=>exact .program ih
 | mark hm _ ih=>exact .mark hm ih
 | dead h=>exact .dead h
 | inj _ ih=>exact .inj fun hi=>ih hi
theorem SR.mono {RA RB:Bl->α->α'->Prop} {β:Bl} {s:Sem α} {s':Sem α'} (h:SR Pa Pr RA β s s') (hr:∀ β a a',RA β a a'->RB β a a'):SR Pa Pr RB β s s':=by
 induction h with
 | pure h=>exact .pure (hr _ _ _ h)
 | load hb _ ih=>exact .load hb ih
 | store hb hv _ ih=>exact .store hb hv ih
 | new ho hk _ ih=>exact .new ho hk ih
 | shape hb _ ih=>exact .shape hb ih
 | freeze hb _ ih=>exact .freeze hb ih
 | frozen hw hb _ ih=>exact .frozen hw hb ih
 | getObj hb _ ih=>exact .getObj hb ih
 | getBad hb hk=>exact .getBad hb hk
 | setObj hb hk ho _ ih=>exact .setObj hb hk ho ih
 | choose _ ih=>exact .choose ih
 | chooseL hf _ _ _=>cases hf
 | chooseR hf _ _ _=>cases hf
 | program _ ih=>exact .program ih
 | mark hm _ ih=>exact .mark hm ih
 | dead h=>exact .dead h
 | inj _ ih=>exact .inj fun hi=>ih hi
end
structure Ran (β β':Bl) (w W w' W':World):Prop where
 ext:Ext β β'
 hr:HR β' w' W'
 fresh:∀ a b k,β' a b k->β a b k\/(w.heap.size<=a/\W.heap.size<=b/\k ≠ .chan)
 sz:w.heap.size<=w'.heap.size
 SZ:W.heap.size<=W'.heap.size
 offw:∀ a,a < w.heap.size->(∀ b k,β a b k->k = .chan\/k.qdi = true)->w'.heap[a]? = w.heap[a]?
 offW:∀ b,b < W.heap.size->(∀ a k,β a b k->k = .chan\/k.qdi = true)->W'.heap[b]? = W.heap[b]?
 tape:w'.tape = w.tape
 TAPE:W'.tape = W.tape
 os:W'.os = W.os
 out:W'.output = W.output
 oz:w'.os = w.os
 outz:w'.output = w.output
theorem Ran.refl {β:Bl} {w W:World} (h:HR β w W):Ran β β w W w W :=
 ⟨Ext.refl _,h,fun _ _ _ x=>.inl x,Nat.le_refl _,Nat.le_refl _,fun _ _ _=>rfl,fun _ _ _=>rfl,rfl,rfl,rfl,rfl,rfl,rfl⟩
theorem Ran.trans {β β' β'':Bl} {w W w1 W1 w2 W2:World} (h:Ran β β' w W w1 W1) (g:Ran β' β'' w1 W1 w2 W2):Ran β β'' w W w2 W2:=by
 refine ⟨h.ext.trans g.ext,g.hr,fun a b k x=>?_,Nat.le_trans h.sz g.sz,Nat.le_trans h.SZ g.SZ,fun a ha hk=>?_,fun b hb hk=>?_,g.tape.trans h.tape,g.TAPE.trans h.TAPE,g.os.trans h.os,g.out.trans h.out,g.oz.trans h.oz,g.outz.trans h.outz⟩
 ·rcases g.fresh a b k x with y | ⟨y1,y2,y3⟩
  ·exact h.fresh a b k y
  ·exact .inr ⟨Nat.le_trans h.sz y1,Nat.le_trans h.SZ y2,y3⟩
 ·refine (g.offw a (Nat.lt_of_lt_of_le ha h.sz) fun b k x=>?_).trans (h.offw a ha hk)
  rcases h.fresh a b k x with y | ⟨y,_⟩
  ·exact hk b k y
  ·omega
 ·refine (g.offW b (Nat.lt_of_lt_of_le hb h.SZ) fun a k x=>?_).trans (h.offW b hb hk)
  rcases h.fresh a b k x with y | ⟨_,y,_⟩
  ·exact hk a k y
  ·omega
def qkt (w W:World):Prop:=∀ i q,w.tape (w.drawn + i) q = W.tape (W.drawn + i) q
inductive qpr (β:Bl):Event->Prop
 | cell {a b:Nat} {k:Kd} (o:Nat) (s:Option Nat) (wr:Bool) (h:β a b k) (hk:k ≠ .chan):qpr β ⟨.cell ⟨b,o,s⟩,wr,false⟩
 | obj {a b:Nat} {k:Kd} (wr:Bool) (h:β a b k) (hk:k ≠ .chan):qpr β ⟨.obj b,wr,false⟩
 | look {a b:Nat} (h:β a b .chan):qpr β ⟨.obj b,false,true⟩
 | mark (m:Mark) (hm:m = .noRoom\/∃ f,m = .extern f):qpr β ⟨.mark m,false,true⟩
section
variable {Pa Pr:Program} {α α':Type} {RA:Bl->α->α'->Prop}
theorem q2e {α:Type} {a b:α} {w w':World} (h:Result.ok a w = Result.ok b w'):a = b/\w = w':=by cases h;exact ⟨rfl,rfl⟩
theorem OR.isChan {β:Bl} {k:Kd} {o o':Obj} (h:OR β k o o'):o'.isChan = decide (k = .chan):=by cases h <;> rfl
theorem OR.qbj {β:Bl} {k:Kd} {o o':Obj} (h:OR β k o o') (hk:k ≠ .cells) (hk2:k.qdi = false):(∀ c e f,o ≠ .cells c e f)/\(∀ c e f,o' ≠ .cells c e f):=by
 cases h <;> first | (exfalso;exact hk rfl;done) | (exfalso;cases hk2;done) | exact ⟨(by intro c e f x;cases x),(by intro c e f x;cases x)⟩
theorem OR.qc8 {β:Bl} {k:Kd} {o o':Obj} (h:OR β k o o') (hk:k = .cells\/k.qdi = true):∃ c e f,o = .cells c e f:=by
 cases h <;> first | exact ⟨_,_,_,rfl⟩ | (rcases hk with z | z <;> cases z)
theorem qme {α:Type} {P:Program} {r:Nat} {c:Obj->Sem α} {w:World} {es:Array Event} {o:Obj} (h:w.heap[r]? = some o) (hc:∀ x e f,o ≠ .cells x e f):(Sem.getObj r c).runT P w es = (c o).runT P w (es.push ⟨.obj r,false,o.isChan⟩):=by
 simp only [Sem.runT,h]
theorem qb2 {α:Type} {P:Program} {r:Nat} {c:Obj->Sem α} {w:World} {o:Obj} (h:w.heap[r]? = some o) (hc:∀ x e f,o ≠ .cells x e f):(Sem.getObj r c).run P w = (c o).run P w:=by
 simp only [Sem.run,h]
theorem qmf {α:Type} {P:Program} {r:Nat} {c:Sem α} {x:Obj} {w:World} {es:Array Event} {o:Obj} (h:w.heap[r]? = some o) (hc:∀ x e f,o ≠ .cells x e f):(Sem.setObj r x c).runT P w es = c.runT P { w with heap:=w.heap.setIfInBounds r x } (es.push ⟨.obj r,true,x.isChan⟩):=by
 simp only [Sem.runT,h]
theorem qb3 {α:Type} {P:Program} {r:Nat} {c:Sem α} {x:Obj} {w:World} {o:Obj} (h:w.heap[r]? = some o) (hc:∀ x e f,o ≠ .cells x e f):(Sem.setObj r x c).run P w = c.run P { w with heap:=w.heap.setIfInBounds r x }:=by
 simp only [Sem.run,h]
theorem SRf.sound {fl:Bool} {β:Bl} {s:Sem α} {s':Sem α'} (h:SRf Pa Pr fl RA β s s'):∀ {w W:World} {ES:Array Event} {a:α} {w':World},HR β w W->(qkt w W\/yc s')->s.run Pa w = .ok a w' ->
  ∃ β' a' W' new,s'.runT Pr W ES = (.ok a' W',ES ++ new)/\Ran β β' w W w' W'/\RA β' a a'/\∀ e ∈ new,qpr β' e:=by
 induction h with
 | pure h =>
  intro w W ES a w' hr ht hs
  obtain ⟨rfl,rfl⟩:=q2e hs
  exact ⟨_,_,W,#[],by simp [Sem.runT],.refl hr,h,by simp⟩
 | @load β a b k o s c c' hb _ ih =>
  intro w W ES x w' hr ht hs
  cases hc:w.cell? ⟨a,o,s⟩ with
  | none =>
   obtain ⟨e,he,_⟩:=hr.far (o:=o) (s:=s) hb Pa (Mode.plain == .atomic)
   simp only [Sem.run,hc,he] at hs
   cases hs
  | some v =>
   obtain ⟨hkk,v',hv',hv⟩:=hr.cell hb hc
   simp only [Sem.run,hc] at hs
   obtain ⟨β',a',W',new,h1,h2,h3,h4⟩:=ih v v' hv (ES:=ES.push ⟨.cell ⟨b,o + k.sh,s⟩,false,false⟩) hr (ht.imp id fun | .load h=>h v') hs
   refine ⟨β',a',W',#[⟨.cell ⟨b,o + k.sh,s⟩,false,false⟩] ++ new,?_,h2,h3,fun e he=>?_⟩
   ·simp only [Sem.runT,hv']
    rw [show (Mode.plain == Mode.atomic) = false from rfl,h1]
    simp
   ·rcases Array.mem_append.1 he with q | q
    ·obtain rfl:=Array.mem_singleton.1 q
     exact .cell _ s false (h2.ext _ _ _ hb) (by rintro rfl;rcases hkk with z | ⟨z,_⟩ <;> cases z)
    ·exact h4 e q
 | @store β a b k o s v v' c c' hb hv _ ih =>
  intro w W ES x w' hr ht hs
  have h1v:one v = true:=by
   cases v <;> first | rfl | (simp [Sem.run] at hs)
  have h1v':one v' = true:=by rw [<-hv.qz3];exact h1v
  have e1:∀ {α:Type} (P:Program) (c:Sem α) (u:Value) (ad:Addr) (w:World),one u = true->(Sem.store .plain ad u c).run P w = match w.cell? ad with
    | some _=>if w.frozen? ad then .halt (.unsupported (.unsafePointer "a write to bytes that a string shares")) w else c.run P (w.setCell ad u)
    | none=>match w.farStore P ad u false with
     | .ok (w,_)=>c.run P w
     | .error h=>.halt h w:=by
   intro α P c u ad w hu
   cases u <;> first | rfl | cases hu
  rw [e1 _ _ _ _ _ h1v] at hs
  cases hc:w.cell? ⟨a,o,s⟩ with
  | none =>
   obtain ⟨e,he,_⟩:=hr.q3y (o:=o) (s:=s) hb Pa v false
   simp only [hc,he] at hs
   cases hs
  | some u =>
   obtain ⟨hk,u',hu',_⟩:=hr.cell hb hc
   simp only [hc] at hs
   split at hs
   ·cases hs
   ·rename_i hf
    obtain rfl:k = .cells:=by
     rcases hk with e | ⟨_,e⟩
     ·exact e
     ·exact absurd e hf
    simp only [Kd.sh,Nat.add_zero] at hu' ⊢
    have hf':¬ W.frozen? ⟨b,o,s⟩ = true:=by rw [<-hr.frozen hb o s s];exact hf
    obtain ⟨β',a',W',new,h1,h2,h3,h4⟩:=ih (ES:=ES.push ⟨.cell ⟨b,o,s⟩,true,false⟩) (hr.setCell hb o s hv) (w:=w.setCell ⟨a,o,s⟩ v) (W:=W.setCell ⟨b,o,s⟩ v') (ht.imp (by exact id) fun | .store h=>h) hs
    have lt:=hr.lt hb
    have r0:Ran β β w W (w.setCell ⟨a,o,s⟩ v) (W.setCell ⟨b,o,s⟩ v'):=by
     refine ⟨Ext.refl _,hr.setCell hb o s hv,fun _ _ _ x=>.inl x,by simp [World.setCell],by simp [World.setCell],fun q hq hk=>?_,fun q hq hk=>?_,rfl,rfl,rfl,rfl,rfl,rfl⟩
     ·have:a ≠ q:=fun e=>by subst e;rcases hk _ _ hb with z | z <;> cases z
      simp [World.setCell,Array.getElem?_modify,this]
     ·have:b ≠ q:=fun e=>by subst e;rcases hk _ _ hb with z | z <;> cases z
      simp [World.setCell,Array.getElem?_modify,this]
    refine ⟨β',a',W',#[⟨.cell ⟨b,o,s⟩,true,false⟩] ++ new,?_,r0.trans h2,h3,fun e he=>?_⟩
    ·have e2:(Sem.store .plain ⟨b,o,s⟩ v' c').runT Pr W ES = c'.runT Pr (W.setCell ⟨b,o,s⟩ v') (ES.push ⟨.cell ⟨b,o,s⟩,true,false⟩):=by
      cases v' <;> first | (simp only [Sem.runT,hu'];rw [if_neg hf'];rfl) | cases h1v'
     rw [e2,h1]
     simp
    ·rcases Array.mem_append.1 he with q | q
     ·obtain rfl:=Array.mem_singleton.1 q
      exact .cell o s true (h2.ext _ _ _ hb) (by decide)
     ·exact h4 e q
 | @new β k o o' c c' ho hk _ ih =>
  intro w W ES x w' hr ht hs
  have hn:=hr.new ho
  have ex:Ext β (β.new w.heap.size W.heap.size k):=fun _ _ _ x=>.inl x
  obtain ⟨β',a',W',new,h1,h2,h3,h4⟩:=ih (β.new w.heap.size W.heap.size k) w.heap.size W.heap.size ex (.inr ⟨rfl,rfl,rfl⟩) (ES:=ES) hn (ht.imp (by exact id) fun | .new h=>h _) hs
  refine ⟨β',a',W',new,h1,Ran.trans ⟨ex,hn,fun a b k' x=>?_,by simp,by simp,fun q hq _=>?_,fun q hq _=>?_,rfl,rfl,rfl,rfl,rfl,rfl⟩ h2,h3,h4⟩
  ·rcases x with x | ⟨rfl,rfl,rfl⟩
   ·exact .inl x
   ·exact .inr ⟨Nat.le_refl _,Nat.le_refl _,hk⟩
  ·simp [Array.getElem?_push,Nat.ne_of_lt hq]
  ·simp [Array.getElem?_push,Nat.ne_of_lt hq]
 | @shape β a b k c c' hb _ ih =>
  intro w W ES x w' hr ht hs
  obtain ⟨β',a',W',new,h1,h2,h3,h4⟩:=ih (w.shape? a) (W.shape? b) (hr.shape hb) (ES:=ES) hr (ht.imp id fun | .shape h=>h _) hs
  exact ⟨β',a',W',new,by simp only [Sem.runT];exact h1,h2,h3,h4⟩
 | @freeze β a b o n s s' c c' hb _ ih =>
  intro w W ES x w' hr ht hs
  have hn:=hr.freeze hb o s s' n
  have hsz:∀ (w:World) (a:Addr),(w.freeze a n).heap.size = w.heap.size/\(w.freeze a n).tape = w.tape/\(w.freeze a n).drawn = w.drawn/\(w.freeze a n).os = w.os/\(w.freeze a n).output = w.output/\∀ q,a.block ≠ q->(w.freeze a n).heap[q]? = w.heap[q]?:=by
   intro w a
   unfold World.freeze
   split
   ·exact ⟨rfl,rfl,rfl,rfl,rfl,fun _ _=>rfl⟩
   ·exact ⟨by simp,rfl,rfl,rfl,rfl,fun q hq=>by simp [Array.getElem?_modify,hq]⟩
  have z1:=hsz w ⟨a,o,s⟩;have z2:=hsz W ⟨b,o,s'⟩
  obtain ⟨β',a',W',new,h1,h2,h3,h4⟩:=ih (ES:=ES) hn (ht.imp (fun ht i q=>by rw [z1.2.1,z2.2.1,z1.2.2.1,z2.2.2.1];exact ht i q) fun | .freeze h=>h) hs
  refine ⟨β',a',W',new,h1,Ran.trans ⟨Ext.refl _,hn,fun _ _ _ x=>.inl x,by rw [z1.1];exact Nat.le_refl _,by rw [z2.1];exact Nat.le_refl _,fun q hq hk=>z1.2.2.2.2.2 q ?_,fun q hq hk=>z2.2.2.2.2.2 q ?_,z1.2.1,z2.2.1,z2.2.2.2.1,z2.2.2.2.2.1,z1.2.2.2.1,z1.2.2.2.2.1⟩ h2,h3,h4⟩
  ·intro e;simp at e;subst e;rcases hk _ _ hb with z | z <;> cases z
  ·intro e;simp at e;subst e;rcases hk _ _ hb with z | z <;> cases z
 | @frozen β a b k o s s' c c' hw hb _ ih =>
  intro w W ES x w' hr ht hs
  obtain ⟨z1,z2⟩:=hr.frz hw hb o s s'
  obtain ⟨β',a',W',new,h1,h2,h3,h4⟩:=ih (w.frozen? ⟨a,o,s⟩) z1 (ES:=ES) hr (ht.imp id fun h=>by cases h) hs
  exact ⟨β',a',W',new,by simp only [Sem.runT];rw [<-z2];exact h1,h2,h3,h4⟩
 | @getObj β a b k c c' hb _ ih =>
  intro w W ES x w' hr ht hs
  obtain ⟨o,o',h1,h2,ho⟩:=hr.at_ a b k hb
  have hbad:¬ (k = .cells\/k.qdi = true):=by
   intro hk
   obtain ⟨y,e,f,rfl⟩:=ho.qc8 hk
   simp only [Sem.run,h1] at hs
   cases hs
  have hk:k ≠ .cells:=fun e=>hbad (.inl e)
  have hk2:k.qdi = false:=by cases h:k.qdi with
   | true=>exact absurd (.inr h) hbad
   | false=>rfl
  obtain ⟨n1,n2⟩:=ho.qbj hk hk2
  rw [qb2 h1 n1] at hs
  obtain ⟨β',a',W',new,h3,h4,h5,h6⟩:=ih o o' ho (ES:=ES.push ⟨.obj b,false,decide (k = .chan)⟩) hr (ht.imp id fun | .getObj h=>h _) hs
  refine ⟨β',a',W',#[⟨.obj b,false,decide (k = .chan)⟩] ++ new,?_,h4,h5,fun e he=>?_⟩
  ·rw [qme h2 n2,ho.isChan,h3];simp
  ·rcases Array.mem_append.1 he with q | q
   ·obtain rfl:=Array.mem_singleton.1 q
    by_cases hc:k = .chan
    ·subst hc;exact .look (h4.ext _ _ _ hb)
    ·simp only [hc,decide_false];exact .obj false (h4.ext _ _ _ hb) hc
   ·exact h6 e q
 | @getBad β a b k c s' hb hk =>
  intro w W ES x w' hr ht hs
  obtain ⟨o,o',h1,h2,ho⟩:=hr.at_ a b k hb
  obtain ⟨y,e,f,rfl⟩:=ho.qc8 (.inr hk)
  simp only [Sem.run,h1] at hs
  cases hs
 | @setObj β a b k o o' c c' hb hk ho _ ih =>
  intro w W ES x w' hr ht hs
  obtain ⟨p,p',h1,h2,hp⟩:=hr.at_ a b k hb
  have hk3:k.qdi = false:=by rcases hk with y | y <;> subst y <;> rfl
  have hk2:k ≠ .cells/\k ≠ .chan:=by rcases hk with y | y <;> subst y <;> exact ⟨by decide,by decide⟩
  obtain ⟨n1,n2⟩:=hp.qbj hk2.1 hk3
  rw [qb3 h1 n1] at hs
  have hn:=hr.setObj hb hk3 ho
  obtain ⟨β',a',W',new,h3,h4,h5,h6⟩:=ih (ES:=ES.push ⟨.obj b,true,false⟩) hn (ht.imp (by exact id) fun | .setObj h=>h) hs
  have r0:Ran β β w W { w with heap:=w.heap.setIfInBounds a o } { W with heap:=W.heap.setIfInBounds b o' }:=by
   refine ⟨Ext.refl _,hn,fun _ _ _ x=>.inl x,by simp,by simp,fun q hq hk'=>?_,fun q hq hk'=>?_,rfl,rfl,rfl,rfl,rfl,rfl⟩
   ·have:a ≠ q:=fun e=>by
     subst e
     rcases hk' _ _ hb with z | z
     ·exact hk2.2 z
     ·rw [hk3] at z;cases z
    simp [Array.getElem?_setIfInBounds,this]
   ·have:b ≠ q:=fun e=>by
     subst e
     rcases hk' _ _ hb with z | z
     ·exact hk2.2 z
     ·rw [hk3] at z;cases z
    simp [Array.getElem?_setIfInBounds,this]
  refine ⟨β',a',W',#[⟨.obj b,true,false⟩] ++ new,?_,r0.trans h4,h5,fun e he=>?_⟩
  ·rw [qmf h2 n2,ho.isChan,decide_eq_false hk2.2,h3];simp
  ·rcases Array.mem_append.1 he with q | q
   ·obtain rfl:=Array.mem_singleton.1 q
    exact .obj true (h4.ext _ _ _ hb) hk2.2
   ·exact h6 e q
 | @chooseL β q c s' hfl hn _ ih =>
  intro w W ES x w' hr ht hs
  by_cases hf:q.forced = true
  ·simp only [Sem.run,hf,if_true] at hs
   exact ih 0 hr (.inr hn) hs
  ·simp only [Sem.run,hf,if_false,Bool.false_eq_true] at hs
   have hn':HR β { w with drawn:=w.drawn + 1 } W:=⟨hr.inj,hr.at_⟩
   obtain ⟨β',a',W',new,h1,h2,h3,h4⟩:=ih _ (ES:=ES) hn' (.inr hn) hs
   exact ⟨β',a',W',new,h1,⟨h2.ext,h2.hr,h2.fresh,h2.sz,h2.SZ,h2.offw,h2.offW,h2.tape,h2.TAPE,h2.os,h2.out,h2.oz,h2.outz⟩,h3,h4⟩
 | @chooseR β q s c' hfl hn _ ih =>
  intro w W ES x w' hr ht hs
  by_cases hf:q.forced = true
  ·obtain ⟨β',a',W',new,h1,h2,h3,h4⟩:=ih 0 (ES:=ES) hr (.inr (hn 0)) hs
   exact ⟨β',a',W',new,by simp only [Sem.runT,hf,if_true];exact h1,h2,h3,h4⟩
  ·have hn':HR β w { W with drawn:=W.drawn + 1 }:=⟨hr.inj,hr.at_⟩
   obtain ⟨β',a',W',new,h1,h2,h3,h4⟩:=ih (q.cut (W.tape W.drawn q)) (ES:=ES) hn' (.inr (hn _)) hs
   exact ⟨β',a',W',new,by simp only [Sem.runT,hf,if_false,Bool.false_eq_true];exact h1,⟨h2.ext,h2.hr,h2.fresh,h2.sz,h2.SZ,h2.offw,h2.offW,h2.tape,h2.TAPE,h2.os,h2.out,h2.oz,h2.outz⟩,h3,h4⟩
 | @choose β q c c' _ ih =>
  intro w W ES x w' hr ht hs
  replace ht:qkt w W:=ht.elim id fun h=>by cases h
  by_cases hf:q.forced = true
  ·simp only [Sem.run,hf,if_true] at hs
   obtain ⟨β',a',W',new,h1,h2,h3,h4⟩:=ih 0 (ES:=ES) hr (.inl ht) hs
   exact ⟨β',a',W',new,by simp only [Sem.runT,hf,if_true];exact h1,h2,h3,h4⟩
  ·simp only [Sem.run,hf,if_false,Bool.false_eq_true] at hs
   have e:w.tape w.drawn q = W.tape W.drawn q:=ht 0 q
   have hn:HR β { w with drawn:=w.drawn + 1 } { W with drawn:=W.drawn + 1 }:=⟨hr.inj,hr.at_⟩
   obtain ⟨β',a',W',new,h1,h2,h3,h4⟩:=ih _ (ES:=ES) hn (.inl fun i q=>by
    have:=ht (1 + i) q
    simpa [Nat.add_assoc] using this) hs
   refine ⟨β',a',W',new,by simp only [Sem.runT,hf,if_false,Bool.false_eq_true];rw [<-e];exact h1,Ran.trans ⟨Ext.refl _,hn,fun _ _ _ x=>.inl x,Nat.le_refl _,Nat.le_refl _,fun _ _ _=>rfl,fun _ _ _=>rfl,rfl,rfl,rfl,rfl,rfl,rfl⟩ h2,h3,h4⟩
 | @program β c c' _ ih =>
  intro w W ES x w' hr ht hs
  exact ih hr (ht.imp id fun | .program h=>h _) hs
 | @mark β m c c' hm _ ih =>
  intro w W ES x w' hr ht hs
  obtain ⟨β',a',W',new,h1,h2,h3,h4⟩:=ih (ES:=ES.push ⟨.mark m,false,true⟩) hr (ht.imp id fun | .mark h=>h) hs
  refine ⟨β',a',W',#[⟨.mark m,false,true⟩] ++ new,by simp only [Sem.runT,h1];simp,h2,h3,fun e he=>?_⟩
  rcases Array.mem_append.1 he with q | q
  ·obtain rfl:=Array.mem_singleton.1 q
   exact .mark m hm
  ·exact h4 e q
 | inj _ ih =>
  intro w W ES x w' hr ht hs
  exact ih hr.inj hr ht hs
 | dead h =>
  intro w W ES x w' hr ht hs
  obtain ⟨y,w2,h1,_⟩:=h w
  rw [h1] at hs;cases hs
theorem SRf.mild {fl:Bool} {β:Bl} {s:Sem α} {s':Sem α'} (h:SRf Pa Pr fl RA β s s'):∀ {w W:World} {x:Halt} {w':World},HR β w W->s.run Pa w = .halt x w'->qvy x:=by
 induction h with
 | pure h=>intro w W x w' hr hs;cases hs
 | @load β a b k o s c c' hb _ ih =>
  intro w W x w' hr hs
  cases hc:w.cell? ⟨a,o,s⟩ with
  | none =>
   obtain ⟨e,he,hm⟩:=hr.far (o:=o) (s:=s) hb Pa (Mode.plain == .atomic)
   simp only [Sem.run,hc,he] at hs
   cases hs
   rcases hm with ⟨u,rfl⟩ | ⟨u,rfl⟩ <;> trivial
  | some v =>
   obtain ⟨_,v',hv',hv⟩:=hr.cell hb hc
   simp only [Sem.run,hc] at hs
   exact ih v v' hv hr hs
 | @store β a b k o s v v' c c' hb hv _ ih =>
  intro w W x w' hr hs
  have e1:one v = true->(Sem.store .plain ⟨a,o,s⟩ v c).run Pa w = match w.cell? ⟨a,o,s⟩ with
    | some _=>if w.frozen? ⟨a,o,s⟩ then .halt (.unsupported (.unsafePointer "a write to bytes that a string shares")) w else c.run Pa (w.setCell ⟨a,o,s⟩ v)
    | none=>match w.farStore Pa ⟨a,o,s⟩ v false with
     | .ok (w,_)=>c.run Pa w
     | .error h=>.halt h w:=by
   intro hu
   cases v <;> first | rfl | cases hu
  by_cases h1v:one v = true
  ·rw [e1 h1v] at hs
   cases hc:w.cell? ⟨a,o,s⟩ with
   | none =>
    obtain ⟨e,he,hm⟩:=hr.q3y (o:=o) (s:=s) hb Pa v false
    simp only [hc,he] at hs
    cases hs
    rcases hm with ⟨u,rfl⟩ | ⟨u,rfl⟩ <;> trivial
   | some u =>
    obtain ⟨hk,u',hu',_⟩:=hr.cell hb hc
    simp only [hc] at hs
    split at hs
    ·cases hs;trivial
    ·rename_i hf
     obtain rfl:k = .cells:=by
      rcases hk with e | ⟨_,e⟩
      ·exact e
      ·exact absurd e hf
     exact ih (hr.setCell hb o s hv) hs
  ·cases v <;> first | exact absurd rfl h1v | (simp only [Sem.run] at hs;cases hs;trivial)
 | @new β k o o' c c' ho hk _ ih =>
  intro w W x w' hr hs
  exact ih (β.new w.heap.size W.heap.size k) w.heap.size W.heap.size (fun _ _ _ x=>.inl x) (.inr ⟨rfl,rfl,rfl⟩) (hr.new ho) hs
 | @shape β a b k c c' hb _ ih =>
  intro w W x w' hr hs
  exact ih (w.shape? a) (W.shape? b) (hr.shape hb) hr hs
 | @freeze β a b o n s s' c c' hb _ ih =>
  intro w W x w' hr hs
  exact ih (hr.freeze hb o s s' n) hs
 | @frozen β a b k o s s' c c' hw hb _ ih =>
  intro w W x w' hr hs
  exact ih (w.frozen? ⟨a,o,s⟩) (hr.frz hw hb o s s').1 hr hs
 | @getObj β a b k c c' hb _ ih =>
  intro w W x w' hr hs
  obtain ⟨o,o',h1,h2,ho⟩:=hr.at_ a b k hb
  by_cases hk:k = .cells\/k.qdi = true
  ·obtain ⟨y,e,f,rfl⟩:=ho.qc8 hk
   simp only [Sem.run,h1] at hs
   cases hs;trivial
  ·rw [qb2 h1 (ho.qbj (fun e=>hk (.inl e)) (by cases h:k.qdi with
    | true=>exact absurd (.inr h) hk
    | false=>rfl)).1] at hs
   exact ih o o' ho hr hs
 | @getBad β a b k c s' hb hk =>
  intro w W x w' hr hs
  obtain ⟨o,o',h1,h2,ho⟩:=hr.at_ a b k hb
  obtain ⟨y,e,f,rfl⟩:=ho.qc8 (.inr hk)
  simp only [Sem.run,h1] at hs
  cases hs;trivial
 | @setObj β a b k o o' c c' hb hk ho _ ih =>
  intro w W x w' hr hs
  obtain ⟨p,p',h1,h2,hp⟩:=hr.at_ a b k hb
  have hk2:k ≠ .cells:=by rcases hk with y | y <;> subst y <;> decide
  have hk3:k.qdi = false:=by rcases hk with y | y <;> subst y <;> rfl
  rw [qb3 h1 (hp.qbj hk2 hk3).1] at hs
  exact ih (hr.setObj hb hk3 ho) hs
 | @choose β q c c' _ ih =>
  intro w W x w' hr hs
  simp only [Sem.run] at hs
  split at hs
  ·exact ih 0 hr hs
  ·exact ih _ (w:={ w with drawn:=w.drawn + 1 }) (W:=W) ⟨hr.inj,hr.at_⟩ hs
 | @chooseL β q c s' hfl hn _ ih =>
  intro w W x w' hr hs
  simp only [Sem.run] at hs
  split at hs
  ·exact ih 0 hr hs
  ·exact ih _ (w:={ w with drawn:=w.drawn + 1 }) (W:=W) ⟨hr.inj,hr.at_⟩ hs
 | @chooseR β q s c' hfl hn _ ih =>
  intro w W x w' hr hs
  exact ih 0 hr hs
 | @program β c c' _ ih =>
  intro w W x w' hr hs
  exact ih hr hs
 | @mark β m c c' hm _ ih =>
  intro w W x w' hr hs
  exact ih hr hs
 | inj _ ih =>
  intro w W x w' hr hs
  exact ih hr.inj hr hs
 | dead h =>
  intro w W x w' hr hs
  obtain ⟨y,w2,h1,h2⟩:=h w
  rw [h1] at hs;cases hs;exact h2
end
end Go.Proofs.Ytcdclihinmdgiaa.sq
namespace Go.Proofs.Ytcdclihinmdgiaa.sq
open Go
set_option linter.unusedVariables false
variable [Cal]
structure Alike (Pa Pr:Program):Prop where
 info:∀ t,Pr.info? t = Pa.info? t
def AdR (β:Bl) (a a':Addr):Prop:=∃ k,β a.block a'.block k/\a'.off = a.off + k.sh/\a'.spot = a.spot
theorem AdR.mono {β β':Bl} (hb:Ext β β') {a a':Addr} (h:AdR β a a'):AdR β' a a':=let ⟨k,h1,h2,h3⟩:=h;⟨k,hb _ _ _ h1,h2,h3⟩
theorem AdR.add {β:Bl} {a a':Addr} (h:AdR β a a') (n:Nat):AdR β (a.add n) (a'.add n):=by
 obtain ⟨k,h1,h2,h3⟩:=h
 unfold Addr.add
 split
 ·exact ⟨k,h1,h2,h3⟩
 ·exact ⟨k,h1,by simp [h2];omega,rfl⟩
theorem AdR.ptr {β:Bl} {a a':Addr} (h:AdR β a a'):VR β (.pointer (some a)) (.pointer (some a')):=by
 obtain ⟨x,y,z⟩:=a;obtain ⟨x',y',z'⟩:=a'
 obtain ⟨k,h1,h2,h3⟩:=h
 simp at h1 h2 h3
 subst h2;subst h3
 exact .ptr _ _ h1
theorem AdR.slice {β:Bl} {a a':Addr} (h:AdR β a a') (n c:Nat):VR β (.slice (some a) n c) (.slice (some a') n c):=by
 obtain ⟨x,y,z⟩:=a;obtain ⟨x',y',z'⟩:=a'
 obtain ⟨k,h1,h2,h3⟩:=h
 simp at h1 h2 h3
 subst h2;subst h3
 exact .slice _ _ _ _ h1
section
variable {Pa Pr:Program} (S:Alike Pa Pr) {β:Bl} {α α' γ γ':Type} {RA:Bl->α->α'->Prop}
theorem Alike.und (S:Alike Pa Pr) (t:TypeId):Pr.underlying t = Pa.underlying t:=by
 unfold Program.underlying
 rw [S.info]
 cases Pa.info? t with
 | none=>rfl
 | some i =>
  cases i with | mk desc =>
   cases desc <;> first | rfl | (simp only [S.info])
theorem SR.ret {a:α} {a':α'} (h:RA β a a'):SR Pa Pr RA β (Pure.pure a:Sem α) (Pure.pure a':Sem α'):=.pure h
theorem SRf.ret {fl:Bool} {a:α} {a':α'} (h:RA β a a'):SRf Pa Pr fl RA β (Pure.pure a:Sem α) (Pure.pure a':Sem α'):=.pure h
theorem SR.bnd {RB:Bl->γ->γ'->Prop} {s:Sem α} {s':Sem α'} {f:α->Sem γ} {f':α'->Sem γ'} (h:SR Pa Pr RA β s s') (hf:∀ β' a a',Ext β β'->RA β' a a'->SR Pa Pr RB β' (f a) (f' a')):SR Pa Pr RB β (s >>= f) (s' >>= f'):=h.bind hf
theorem SRf.bnd {fl:Bool} {RB:Bl->γ->γ'->Prop} {s:Sem α} {s':Sem α'} {f:α->Sem γ} {f':α'->Sem γ'} (h:SR Pa Pr RA β s s') (hf:∀ β' a a',Ext β β'->RA β' a a'->SRf Pa Pr fl RB β' (f a) (f' a')):SRf Pa Pr fl RB β (s >>= f) (s' >>= f'):=SRf.bind h hf
theorem SR.yw {RB:Bl->γ->γ'->Prop} {a:α} {a':α'} {f:α->Sem γ} {f':α'->Sem γ'} (h:SR Pa Pr RB β (f a) (f' a')):SR Pa Pr RB β (Pure.pure a >>= f) (Pure.pure a' >>= f'):=h
theorem SRf.yw {fl:Bool} {RB:Bl->γ->γ'->Prop} {a:α} {a':α'} {f:α->Sem γ} {f':α'->Sem γ'} (h:SRf Pa Pr fl RB β (f a) (f' a')):SRf Pa Pr fl RB β (Pure.pure a >>= f) (Pure.pure a' >>= f'):=h
theorem Dead.bnd {s:Sem α} (h:Dead Pa s) (f:α->Sem γ):Dead Pa (s >>= f):=h.bind f
theorem qd (why:String):Dead Pa (stuck why:Sem α):=Dead.halt trivial
theorem qm (u:Unsupported) (h:∀ b,u ≠ .initOrder b):Dead Pa (unsupported u:Sem α):=Dead.halt (by
 cases u <;> first | trivial | exact (h _ rfl).elim)
def qvz:RuntimeError->Bool
 | .bounds .. | .error _ | .plain _ | .nilDeref=>true
 | _=>false
theorem qy {e:RuntimeError} (h:qvz e = true):Dead Pa (runtimePanic e:Sem α):=fun w=>by
 cases e <;> first | exact ⟨_,w,rfl,trivial⟩ | cases h
theorem qb4 {q:Question} {c:Nat->Sem α} (h:∀ n,Dead Pa (c n)):Dead Pa (.choose q c):=fun w=>by
 simp only [Sem.run]
 split
 ·exact h _ w
 ·exact h _ _
theorem tq (k:IntKind) (x y:Int) (code:BoundsCode):Dead Pa (boundsPanic k x y code:Sem α):=by
 unfold boundsPanic
 split
 ·exact qb4 fun n=>(qy (e:=.bounds (IntKind.i64.wrap x) y (n == 1) code) rfl:Dead Pa (runtimePanic _))
 ·exact (qy (e:=.bounds (IntKind.i64.wrap x) y (k != .u64) code) rfl:Dead Pa (runtimePanic _))
include S in
theorem vw (t:TypeId):SR Pa Pr (fun _ i i'=>i' = i/\Pa.info? t = some i) β (typeInfo t) (typeInfo t):=by
 refine .program ?_
 show SR Pa Pr _ β (match Pa.info? t with | some i=>Pure.pure i | none=>stuck "no such type") (match Pr.info? t with | some i=>Pure.pure i | none=>stuck "no such type")
 rw [S.info]
 cases h:Pa.info? t with
 | none=>exact .dead (qd _)
 | some i=>exact .ret ⟨rfl,rfl⟩
include S in
theorem xu (t:TypeId):SR Pa Pr (fun _ i i'=>i' = i/\Pa.underlying t = some i) β (underlying t) (underlying t):=by
 refine .program ?_
 show SR Pa Pr _ β (match Pa.underlying t with | some i=>Pure.pure i | none=>stuck "no such type") (match Pr.underlying t with | some i=>Pure.pure i | none=>stuck "no such type")
 rw [S.und]
 cases h:Pa.underlying t with
 | none=>exact .dead (qd _)
 | some i=>exact .ret ⟨rfl,rfl⟩
include S in
theorem jm (t:TypeId):SR Pa Pr (fun _ i i'=>i' = i/\(Pa.info? t).map (·.size) = some i) β (sizeOf t) (sizeOf t) :=
 .bnd (vw S t) fun _ i i' _ h=>by obtain ⟨rfl,h⟩:=h;exact .ret ⟨rfl,by rw [h];rfl⟩
include S in
theorem qoi (t:TypeId):SR Pa Pr (fun _ i i'=>i' = i) β (isAgg t) (isAgg t):=by
 refine .bnd (xu S t) fun _ i i' _ h=>?_
 obtain ⟨rfl,h⟩:=h
 cases i' <;> exact .ret rfl
def ni (P:Program) (t:TypeId):Bool:=match P.info? t with
 | some i=>match i.zero with
  | some z=>clo 20 z
  | none=>true
 | none=>true
include S in
theorem tu {t:TypeId} (hz:ni Pa t = true):SR Pa Pr (fun _ v v'=>v' = v/\clo 20 v = true) β (zeroValue t) (zeroValue t):=by
 refine .bnd (vw S t) fun _ i i' _ h=>?_
 obtain ⟨rfl,h⟩:=h
 unfold ni at hz
 rw [h] at hz
 cases hi:i'.zero with
 | none=>exact .dead (qm _ (fun b e=>by cases e))
 | some z=>simp only [hi] at hz;exact .ret ⟨rfl,hz⟩
theorem qc9 {v v':Value} (h:VR β v v'):SR Pa Pr (fun _ x x'=>x' = x/\v = .int x.1 x.2) β (asIntOf v) (asIntOf v'):=by
 cases h with
 | int k n=>exact .ret ⟨rfl,rfl⟩
 | ptr o s h=>exact .dead (qm _ (fun b e=>by cases e))
 | _=>exact .dead (qd _)
theorem qd7 {v v':Value} (h:VR β v v'):SR Pa Pr (fun _ x x'=>x' = x) β (asInt v) (asInt v') :=
 .bnd (qc9 h) fun _ x x' _ h=>by obtain ⟨rfl,h⟩:=h;exact .ret rfl
theorem qsr {v v':Value} (h:VR β v v'):SR Pa Pr (fun _ x x'=>x' = x) β (asBool v) (asBool v'):=by
 cases h with
 | bool b=>exact .ret rfl
 | _=>exact .dead (qd _)
theorem qv0 {v v':Value} (h:VR β v v'):SR Pa Pr (fun β x x'=>AR β x x') β (asAgg v) (asAgg v'):=by
 cases h with
 | agg h1 h2=>exact .ret ⟨h1,h2⟩
 | _=>exact .dead (qd _)
theorem qgj {v v':Value} (h:VR β v v'):SR Pa Pr (fun β x x'=>AdR β x x') β (Instr.sureAddr v) (Instr.sureAddr v'):=by
 cases h with
 | ptr o s h=>exact .ret ⟨_,h,rfl,rfl⟩
 | _=>exact .dead (qd _)
theorem qi1 {a a':Addr} (h:AdR β a a'):SR Pa Pr (fun β x x'=>VR β x x') β (load a) (load a'):=by
 obtain ⟨x,y,z⟩:=a;obtain ⟨x',y',z'⟩:=a'
 obtain ⟨k,h1,h2,h3⟩:=h
 simp at h1 h2 h3
 subst h2;subst h3
 exact .load h1 fun v v' hv=>.pure hv
theorem qss {a a':Addr} (h:AdR β a a') {v v':Value} (hv:VR β v v'):SR Pa Pr (fun _ _ _=>True) β (store a v) (store a' v'):=by
 obtain ⟨x,y,z⟩:=a;obtain ⟨x',y',z'⟩:=a'
 obtain ⟨k,h1,h2,h3⟩:=h
 simp at h1 h2 h3
 subst h2;subst h3
 exact .store h1 hv (.pure trivial)
theorem qa7 {a a':Addr}:∀ (n i:Nat) {β:Bl} {acc acc':Array Value},AdR β a a'->AR β acc acc'->SR Pa Pr (fun β x x'=>AR β x x') β (loadCellsFrom a i n acc) (loadCellsFrom a' i n acc')
 | 0,i,β,acc,acc',h,hacc=>.ret hacc
 | n + 1,i,β,acc,acc',h,hacc=>by
  refine .bnd (qi1 (h.add i)) fun β' v v' e hv=>?_
  exact qa7 n (i + 1) (h.mono e) ((hacc.mono e).push hv)
theorem yt {a a':Addr}:∀ (l l':List Value) (i:Nat) {β:Bl},AdR β a a'->LR β l l'->SR Pa Pr (fun _ _ _=>True) β (storeCells a l i) (storeCells a' l' i)
 | [],l',i,β,h,hl=>by cases hl;exact .ret trivial
 | v :: l,l',i,β,h,hl=>by
  cases hl with
  | cons hv ht =>
   refine .bnd (qss (h.add i) hv) fun β' _ _ e _=>?_
   exact yt l _ (i + 1) (h.mono e) (ht.mono e)
include S in
theorem qhv (t:TypeId) {a a':Addr} (h:AdR β a a'):SR Pa Pr (fun β x x'=>VR β x x') β (loadVar t a) (loadVar t a'):=by
 unfold loadVar
 refine .bnd (qoi S t) fun β1 x x' e h1=>?_
 subst h1
 cases x' with
 | true =>
  refine .bnd (jm S t) fun β2 n n' e2 h2=>?_
  obtain ⟨rfl,_⟩:=h2
  refine .bnd (qa7 n' 0 ((h.mono e).mono e2) .nil) fun β3 xs xs' e3 h3=>?_
  exact .ret h3.agg
 | false=>exact qi1 (h.mono e)
include S in
theorem qmg (t:TypeId) {a a':Addr} (h:AdR β a a') {v v':Value} (hv:VR β v v'):SR Pa Pr (fun _ _ _=>True) β (storeVar t a v) (storeVar t a' v'):=by
 unfold storeVar
 refine .bnd (jm S t) fun β1 n n' e h1=>?_
 obtain ⟨rfl,_⟩:=h1
 have hc:=(hv.mono e).cells
 rw [<-hc.size]
 split
 ·exact .dead ((qd _).bnd _)
 ·exact yt _ _ 0 (h.mono e) hc.toList
theorem qai (t:TypeId) {xs ys:Array Value} (h:AR β xs ys):SR Pa Pr (fun β x x'=>AdR β x x') β (newRow t xs) (newRow t ys) :=
 .new (.cells t (0,0) h) (by decide) fun β' a b e hb=>.pure ⟨_,hb,rfl,rfl⟩
theorem qku (t:TypeId) {v v':Value} (hv:VR β v v'):SR Pa Pr (fun β x x'=>AdR β x x') β (newVar t v) (newVar t v'):=qai t hv.cells
include S in
theorem qcp (t:TypeId) {xs ys:Array Value} (h:AR β xs ys) (off:Nat):SR Pa Pr (fun β x x'=>VR β x x') β (part t xs off) (part t ys off):=by
 unfold part
 refine .bnd (qoi S t) fun β1 x x' e h1=>?_
 subst h1
 cases x' with
 | true =>
  refine .bnd (jm S t) fun β2 n n' e2 h2=>?_
  obtain ⟨rfl,_⟩:=h2
  exact .ret (((h.mono e).mono e2).extract _ _).agg
 | false =>
  cases hx:xs[off]? with
  | none=>exact .dead (qd _)
  | some v =>
   obtain ⟨v',hv',hv⟩:=h.get hx
   rw [hv']
   exact .ret (hv.mono e)
end
end Go.Proofs.Ytcdclihinmdgiaa.sq
namespace Go.Proofs.Ytcdclihinmdgiaa.sq
open Go
set_option linter.unusedVariables false
variable [Cal]
section
variable {Pa Pr:Program} (S:Alike Pa Pr) {β:Bl} {α α' γ γ':Type} {RA:Bl->α->α'->Prop}
inductive PR (β:Bl):List (Nat × Value)->List (Nat × Value)->Prop
 | nil:PR β [] []
 | cons (i:Nat) {v v':Value} {l l':List (Nat × Value)} (h:VR β v v') (t:PR β l l'):PR β ((i,v) :: l) ((i,v') :: l')
theorem PR.mono {β':Bl} (hb:Ext β β') {l l':List (Nat × Value)} (h:PR β l l'):PR β' l l':=by
 induction h with
 | nil=>exact .nil
 | cons i hv _ ih=>exact .cons i (hv.mono hb) ih
theorem foldl_rel (off:Nat):∀ (l l':List Value) (s:Nat) {cs cs':Array Value},LR β l l'->AR β cs cs' ->
  AR β ((l.zipIdx s).foldl (fun cs (x:Value × Nat)=>cs.setIfInBounds (off + x.2) x.1) cs) ((l'.zipIdx s).foldl (fun cs (x:Value × Nat)=>cs.setIfInBounds (off + x.2) x.1) cs')
 | [],_,s,cs,cs',hl,hc=>by cases hl;exact hc
 | v :: l,_,s,cs,cs',hl,hc=>by
  cases hl with
  | cons hv ht =>
   simp only [List.zipIdx_cons,List.foldl_cons]
   exact foldl_rel off l _ (s + 1) ht (hc.set _ hv)
theorem qi2 (place:Nat->Option (Nat × Nat)) {l l':List (Nat × Value)} (h:PR β l l'):∀ {cs cs':Array Value},AR β cs cs' ->
  (Instr.fill place cs l = none/\Instr.fill place cs' l' = none)\/∃ r r',Instr.fill place cs l = some r/\Instr.fill place cs' l' = some r'/\AR β r r':=by
 induction h with
 | nil=>intro cs cs' hc;exact .inr ⟨cs,cs',rfl,rfl,hc⟩
 | @cons i v v' l l' hv _ ih =>
  intro cs cs' hc
  unfold Instr.fill
  cases place i with
  | none=>exact .inl ⟨rfl,rfl⟩
  | some p =>
   obtain ⟨off,size⟩:=p
   have e1:=hv.cells.size
   simp only [<-e1,<-hc.size]
   split
   ·exact .inl ⟨rfl,rfl⟩
   ·refine ih ?_
    have:=foldl_rel off v.cells.toList v'.cells.toList 0 hv.cells.toList hc
    rw [<-Array.foldl_toList,<-Array.foldl_toList,Array.toList_zipIdx,Array.toList_zipIdx]
    exact this
theorem qkv {parts:Array (Nat × Operand)} {f g:Operand->Value} (h:∀ x ∈ parts,VR β (f x.2) (g x.2)):PR β (parts.map fun (i,x)=>(i,f x)).toList (parts.map fun (i,x)=>(i,g x)).toList:=by
 rw [Array.toList_map,Array.toList_map]
 have h':∀ x ∈ parts.toList,VR β (f x.2) (g x.2):=fun x hx=>h x (by simpa using hx)
 revert h'
 induction parts.toList with
 | nil=>intro _;exact .nil
 | cons x l ih=>intro h';exact .cons x.1 (h' x (by simp)) (ih fun y hy=>h' y (by simp [hy]))
include S in
theorem qst (t:TypeId) {v v':Value} (h:VR β v v'):SR Pa Pr (fun β=>VR β) β (Instr.loadAt t v) (Instr.loadAt t v') :=
 .bnd (qgj h) fun β1 a a' e ha=>qhv S t ha
include S in
theorem qps (t:TypeId) {v v' x x':Value} (h:VR β v v') (hx:VR β x x'):SR Pa Pr (fun _ _ _=>True) β (Instr.storeAt t v x) (Instr.storeAt t v' x') :=
 .bnd (qgj h) fun β1 a a' e ha=>qmg S t ha (hx.mono e)
def qmh (P:Program) (s:TypeId) (field:Nat):Bool:=match P.underlying s with
 | some (.struct fs)=>match fs[field]? with
  | some f=>(P.info? f.type).any (·.size != 0)
  | none=>true
 | _=>true
include S in
theorem qpt {s:TypeId} {n:Nat} (hf:qmh Pa s n = true) {v v':Value} (h:VR β v v'):SR Pa Pr (fun β=>VR β) β (Instr.fieldAt s v n) (Instr.fieldAt s v' n):=by
 unfold Instr.fieldAt
 refine .bnd (xu S s) fun β1 d d' e h1=>?_
 obtain ⟨rfl,h1⟩:=h1
 unfold qmh at hf
 rw [h1] at hf
 cases d' <;> try exact .dead (qd _)
 rename_i fs
 simp only at hf ⊢
 cases hfi:fs[n]? with
 | none=>exact .dead (qd _)
 | some f =>
  rw [hfi] at hf
  simp only at hf ⊢
  refine .bnd (qgj (h.mono e)) fun β2 a a' e2 ha=>?_
  refine .bnd (RA:=fun β x x'=>AdR β x x') ?_ fun β3 x x' e3 hx=>.ret hx.ptr
  unfold fieldPlace
  refine .bnd (jm S _) fun β3 m m' e3 hm=>?_
  obtain ⟨rfl,hm⟩:=hm
  cases hi:Pa.info? f.type with
  | none=>rw [hi] at hm;cases hm
  | some i =>
   rw [hi] at hm hf
   simp at hm hf
   subst hm
   rw [if_neg hf,if_neg hf]
   exact .ret ((ha.mono e3).add _)
include S in
theorem qpu (t:TypeId) {x x' i i':Value} (hx:VR β x x') (hi:VR β i i'):SR Pa Pr (fun β=>VR β) β (Instr.indexAt t x i) (Instr.indexAt t x' i'):=by
 unfold Instr.indexAt
 refine .bnd (qc9 hi) fun β1 p p' e1 h1=>?_
 obtain ⟨rfl,_⟩:=h1
 obtain ⟨k,n⟩:=p'
 simp only
 have hx1:=hx.mono e1
 refine .bnd (xu S t) fun β2 d d' e2 h2=>?_
 obtain ⟨rfl,h2⟩:=h2
 have hx2:=hx1.mono e2
 have fin:∀ {β3:Bl} {A A' U U' B B':Sem Value} {c t:Prop} [Decidable c] [Decidable t],SR Pa Pr (fun β=>VR β) β3 A A'->Dead Pa U->Dead Pa B->SR Pa Pr (fun β=>VR β) β3 (if c then A else if t then U else B) (if c then A' else if t then U' else B'):=by
  intro β3 A A' U U' B B' c t _ _ h1 h2 h3
  split
  ·exact h1
  ·split
   ·exact .dead h2
   ·exact .dead h3
 have fin2:∀ {β3:Bl} (a a':Addr) (el:TypeId),AdR β3 a a'->SR Pa Pr (fun β=>VR β) β3 (sizeOf el >>= fun z=>pure (.pointer (some (a.add (n.toNat * z))))) (sizeOf el >>= fun z=>pure (.pointer (some (a'.add (n.toNat * z))))):=by
  intro β3 a a' el ha
  refine .bnd (jm S _) fun β5 m m' e5 h5=>?_
  obtain ⟨rfl,h5⟩:=h5
  exact .ret ((ha.mono e5).add _).ptr
 cases d' <;> try exact .dead (qd _)
 ·cases hx2 with
  | slice0 m c =>
   refine .yw (.bnd (xu S t) fun β4 d2 d2' e4 h4=>?_)
   exact .dead (tq _ _ _ _)
  | slice o s m c h =>
   refine .yw (.bnd (xu S t) fun β4 d2 d2' e4 h4=>?_)
   obtain ⟨rfl,h4⟩:=h4
   exact fin (fin2 _ _ _ (AdR.mono e4 ⟨_,h,rfl,rfl⟩)) (qm _ (fun b e=>by cases e)) (tq _ _ _ _)
  | _=>exact .dead (qd _)
 ·refine .bnd (qgj hx2) fun β3 a a' e3 ha=>?_
  refine .yw (.bnd (xu S t) fun β4 d2 d2' e4 h4=>?_)
  obtain ⟨rfl,h4⟩:=h4
  exact fin (fin2 _ _ _ (ha.mono e4)) (qm _ (fun b e=>by cases e)) (tq _ _ _ _)
include S in
theorem qv1 {t:TypeId} (hz:ni Pa t = true):SR Pa Pr (fun β=>VR β) β (Instr.alloc t true (.tuple #[])) (Instr.alloc t true (.tuple #[])) :=
 .bnd (tu S hz) fun β1 v v' e h1=>by
  obtain ⟨rfl,h1⟩:=h1
  exact .bnd (qku t (qcd 20 _ h1)) fun β2 a a' e2 ha=>.ret ha.ptr
theorem q2f (t:TypeId) {v v':Value} (h:VR β v v'):SR Pa Pr (fun β=>VR β) β (Instr.box t v) (Instr.box t v') :=
 .bnd (qku t h) fun β2 a a' e2 ha=>.ret ha.ptr
theorem qpv {v v':Value} (h:VR β v v') (n:Nat):SR Pa Pr (fun β=>VR β) β (Instr.extract v n) (Instr.extract v' n):=by
 unfold Instr.extract
 cases h with
 | tuple h1 h2 =>
  rename_i xs xs'
  have A:AR β xs xs':=⟨h1,h2⟩
  cases hx:xs[n]? with
  | none=>simp only [hx];exact .dead (qd _)
  | some u =>
   obtain ⟨u',hu',hu⟩:=A.get hx
   simp only [hx,hu']
   exact .ret hu
 | _=>exact .dead (qd _)
include S in
theorem qv2 (t:TypeId) {v v':Value} (h:VR β v v') (n:Nat):SR Pa Pr (fun β=>VR β) β (Instr.field t v n) (Instr.field t v' n):=by
 unfold Instr.field
 refine .bnd (xu S t) fun β1 d d' e h1=>?_
 obtain ⟨rfl,h1⟩:=h1
 cases d' <;> try exact .dead (qd _)
 rename_i fs
 simp only
 cases fs[n]? with
 | none=>exact .dead (qd _)
 | some f=>exact .bnd (qv0 (h.mono e)) fun β2 xs xs' e2 hx=>qcp S _ hx _
include S in
theorem qv3 (t:TypeId) {x x' i i':Value} (hx:VR β x x') (hi:VR β i i'):SR Pa Pr (fun β=>VR β) β (Instr.index t x i) (Instr.index t x' i'):=by
 unfold Instr.index
 refine .bnd (qc9 hi) fun β1 p p' e1 h1=>?_
 obtain ⟨rfl,_⟩:=h1
 obtain ⟨k,n⟩:=p'
 simp only
 refine .bnd (xu S t) fun β2 d d' e2 h2=>?_
 obtain ⟨rfl,h2⟩:=h2
 have hx2:=(hx.mono e1).mono e2
 cases d' <;> try exact .dead (qd _)
 ·cases hx2 with
  | string s =>
   simp only
   split
   ·exact .ret (.int _ _)
   ·exact .dead (tq _ _ _ _)
  | _=>exact .dead (qd _)
 ·cases hx2 with
  | agg h1 h2 =>
   simp only
   split
   ·refine .bnd (jm S _) fun β3 m m' e3 h3=>?_
    obtain ⟨rfl,h3⟩:=h3
    exact qcp S _ (AR.mono e3 ⟨h1,h2⟩) _
   ·exact .dead (tq _ _ _ _)
  | _=>exact .dead (qd _)
theorem qmi (f:FuncId) (hf:Cal.ok f = true) {xs xs' ys ys':Array Value} (h:AR β xs xs') (h':AR β ys ys'):SR Pa Pr (fun β=>VR β) β (Instr.makeFunc (.func f) xs ys) (Instr.makeFunc (.func f) xs' ys') :=
 .ret (.func f hf h.size h.at_ h'.size h'.at_)
theorem qpw (t:TypeId):SR Pa Pr (fun β=>VR β) β (Instr.makeMap t none) (Instr.makeMap t none) :=
 .new (.map 0 rfl (fun i e e' h=>by simp at h)) (by decide) fun β' a b e hb=>.pure (.map hb)
end
end Go.Proofs.Ytcdclihinmdgiaa.sq
namespace Go.Proofs.Ytcdclihinmdgiaa.sq
open Go
set_option linter.unusedVariables false
variable [Cal]
structure Alike2 (Pa Pr:Program):Prop extends Alike Pa Pr where
 held:∀ t,Pr.stoodInHeld t = Pa.stoodInHeld t
 eqg:∀ t,Pr.eqGuardType Pr.depth t = Pa.eqGuardType Pa.depth t
 none:Pa.globals.size = 0
def qb5 (P:Program):Nat->TypeId->Bool
 | 0,_=>false
 | n + 1,t=>match P.underlying t with
  | some .bool | some .string=>true
  | some (.int _)=>match P.info? t with
   | some { desc:=.named "sync.copyChecker" _,.. }=>false
   | _=>true
  | some (.struct fs)=>fs.all fun f=>qb5 P n f.type
  | some (.array _ e)=>qb5 P n e
  | _=>false
section
variable {Pa Pr:Program} (S:Alike2 Pa Pr) {β:Bl} {α α' γ γ':Type} {RA:Bl->α->α'->Prop}
theorem qd8 {δ σ:Type} {f f':δ->σ->Sem (ForInStep σ)}:∀ (l:List δ) {β:Bl} (s:σ),(∀ x ∈ l,∀ β' s,Ext β β'->SR Pa Pr (fun _ r r'=>r' = r) β' (f x s) (f' x s))->SR Pa Pr (fun _ r r'=>r' = r) β (forIn l s f) (forIn l s f')
 | [],β,s,h=>by simp only [List.forIn_nil];exact .ret rfl
 | x :: l,β,s,h=>by
  simp only [List.forIn_cons]
  refine .bnd (h x (by simp) β s (Ext.refl _)) fun β1 r r' e hr=>?_
  subst hr
  cases r' with
  | done b=>exact .ret rfl
  | yield b=>exact qd8 l b fun y hy β' s e'=>h y (by simp [hy]) β' s (e.trans e')
theorem qkw (r:Nat) (w:World):(∃ o,(numberAt r).run Pa w = .ok o w)\/∃ s,(numberAt r).run Pa w = .halt (.stuck s) w:=by
 unfold numberAt shape getObj
 cases h:w.heap[r]? with
 | none=>simp [Sem.run_bind,Sem.run,World.shape?,h]
 | some o=>cases o <;> simp [Sem.run_bind,Sem.run,World.shape?,h]
theorem qpx (a:Addr) (w:World):(∃ o,(behindNumber a).run Pa w = .ok o w)\/∃ s,(behindNumber a).run Pa w = .halt (.stuck s) w:=by
 unfold behindNumber
 rcases qkw (Pa:=Pa) a.block w with ⟨o,h⟩ | ⟨s,h⟩
 ·exact .inl ⟨o.getD (a,false),by simp [h]⟩
 ·exact .inr ⟨s,by simp [h]⟩
theorem qaa {a:Addr} {f:Addr × Bool->Sem α} (h:∀ x,Dead Pa (f x)):Dead Pa (behindNumber a >>= f):=fun w=>by
 rcases qpx (Pa:=Pa) a w with ⟨o,e⟩ | ⟨s,e⟩
 ·obtain ⟨x,w',h1,h2⟩:=h o w
  exact ⟨x,w',by simp [Sem.run_bind,e,h1],h2⟩
 ·exact ⟨.stuck s,w,by simp [e],trivial⟩
theorem qa8 {f:Program->Sem α} (h:Dead Pa (f Pa)):Dead Pa (program >>= f):=fun w=>h w
theorem qgk {t:TypeId} {f:TypeInfo->Sem α} (h:∀ i,Pa.info? t = some i->Dead Pa (f i)):Dead Pa (typeInfo t >>= f):=fun w=>by
 cases e:Pa.info? t with
 | none=>exact ⟨.stuck "no such type",w,by simp [typeInfo,Sem.run_bind,program,Sem.run,e,stuck],trivial⟩
 | some i =>
  obtain ⟨x,w',h1,h2⟩:=h i e w
  exact ⟨x,w',by simp [typeInfo,Sem.run_bind,program,Sem.run,e,h1],h2⟩
include S in
theorem qbk:∀ (n:Nat) (d:Nat) (t:TypeId) {β:Bl} {x x' y y':Value},qb5 Pa n t = true->VR β x x'->VR β y y'->SR Pa Pr (fun _ b b'=>b' = b) β (Op.equalIn d t x y) (Op.equalIn d t x' y')
 | _,0,t,β,x,x',y,y',hf,hx,hy=>.dead (qm _ (fun b e=>by cases e))
 | 0,d + 1,t,β,x,x',y,y',hf,hx,hy=>by simp [qb5] at hf
 | n + 1,d + 1,t,β,x,x',y,y',hf,hx,hy=>by
  unfold Op.equalIn
  refine .bnd (xu S.toAlike t) fun β1 u u' e h1=>?_
  obtain ⟨rfl,h1⟩:=h1
  unfold qb5 at hf
  rw [h1] at hf
  replace hx:=hx.mono e
  replace hy:=hy.mono e
  cases u' with
  | bool=>cases hx <;> cases hy <;> first | exact .ret rfl | exact .dead (qd _)
  | string=>cases hx <;> cases hy <;> first | exact .ret rfl | exact .dead (qd _)
  | int kk =>
   cases hx with
   | int k a =>
    cases hy with
    | int k' b =>
     simp only
     split
     ·exact .ret rfl
     ·exact .dead (qd _)
    | ptr0=>simp only;exact .dead (qm _ (fun b e=>by cases e))
    | ptr o s h =>
     simp only
     by_cases hz:a = 0
     ·subst hz;exact .ret rfl
     ·refine .dead ?_
      split <;> first | (exfalso;simp_all;done) | exact qm _ (fun b e=>by cases e)
    | _=>exact .dead (qd _)
   | ptr0 =>
    cases hy <;> exact .dead (qm _ (fun b e=>by cases e))
   | ptr o s h =>
    cases hy with
    | int k' b =>
     simp only
     by_cases hz:b = 0
     ·subst hz;exact .ret rfl
     ·refine .dead ?_
      split <;> first | (exfalso;simp_all;done) | exact qm _ (fun b e=>by cases e)
    | ptr o' s' h' =>
     simp only
     refine .dead (qaa fun p=>qaa fun q=>?_)
     refine qa8 ?_
     rw [if_neg (by simp [S.none])]
     refine qgk fun i hi=>?_
     rw [hi] at hf
     split
     ·rename_i hd
      obtain ⟨desc,s1,s2⟩:=i
      simp only at hd
      subst hd
      simp at hf
     ·exact qm _ (fun b e=>by cases e)
    | _=>exact .dead (qm _ (fun b e=>by cases e))
   | _=>cases hy <;> first | exact .dead (qd _) | exact .dead (qm _ (fun b e=>by cases e))
  | struct fs =>
   cases hx with
   | agg a1 a2 =>
    cases hy with
    | agg b1 b2 =>
     simp only
     rename_i xs xs' ys ys'
     have X:AR β1 xs xs':=⟨a1,a2⟩
     have Y:AR β1 ys ys':=⟨b1,b2⟩
     refine .program ?_
     show SR Pa Pr _ β1 (if Pa.stoodInHeld t = true then _ else _) (if Pr.stoodInHeld t = true then _ else _)
     rw [S.held]
     split
     ·exact .dead ((qm _ (fun b e=>by cases e)).bnd _)
     ·rw [<-Array.forIn_toList,<-Array.forIn_toList]
      refine .bnd (qd8 fs.toList (β:=β1) (none,()) fun f hfm β2 s e2=>?_) fun β2 r r' e2 hr=>?_
      ·split
       ·refine .bnd (qcp S.toAlike f.type (X.mono e2) f.offset) fun β3 v v' e3 hv=>?_
        refine .bnd (qcp S.toAlike f.type ((Y.mono e2).mono e3) f.offset) fun β4 u u' e4 hu=>?_
        refine .bnd (qbk n d f.type (by
         have:=Array.all_eq_true_iff_forall_mem.1 hf f (by simpa using hfm)
         exact this) (hv.mono e4) hu) fun β5 b b' e5 hb=>?_
        subst hb
        split <;> exact .ret rfl
       ·exact .ret rfl
      ·subst hr
       split <;> exact .ret rfl
    | _=>exact .dead (qd _)
   | _=>cases hy <;> exact .dead (qd _)
  | array len el =>
   cases hx with
   | agg a1 a2 =>
    cases hy with
    | agg b1 b2 =>
     simp only
     rename_i xs xs' ys ys'
     have X:AR β1 xs xs':=⟨a1,a2⟩
     have Y:AR β1 ys ys':=⟨b1,b2⟩
     refine .bnd (jm S.toAlike el) fun β1' m m' e0 hm=>?_
     obtain ⟨rfl,hm⟩:=hm
     simp only [Std.Legacy.Range.forIn_eq_forIn_range']
     refine .bnd (qd8 _ (β:=β1') (none,()) fun f hfm β2 s e2=>?_) fun β2 r r' e2 hr=>?_
     ·refine .bnd (qcp S.toAlike el ((X.mono e0).mono e2) _) fun β3 v v' e3 hv=>?_
      refine .bnd (qcp S.toAlike el (((Y.mono e0).mono e2).mono e3) _) fun β4 u u' e4 hu=>?_
      refine .bnd (qbk n d el hf (hv.mono e4) hu) fun β5 b b' e5 hb=>?_
      subst hb
      split <;> exact .ret rfl
     ·subst hr
      split <;> exact .ret rfl
    | _=>exact .dead (qd _)
   | _=>cases hy <;> exact .dead (qd _)
  | _=>cases hf
end
end Go.Proofs.Ytcdclihinmdgiaa.sq
namespace Go.Proofs.Ytcdclihinmdgiaa.sq
open Go
set_option linter.unusedVariables false
variable [Cal]
structure Alike3 (Pa Pr:Program):Prop extends Alike2 Pa Pr where
 byte:∀ t o,byteOfCell Pr Pr.depth t o = byteOfCell Pa Pa.depth t o
 bad:Pa.info? qt4 = Option.none
 back:∀ e c o n,cellAtBytes Pr Pr.depth e c o n = cellAtBytes Pa Pa.depth e c o n
section
variable {Pa Pr:Program} (S:Alike3 Pa Pr) {β:Bl} {α α' γ γ':Type} {RA:Bl->α->α'->Prop}
theorem qbl:SR Pa Pr (fun _ p p'=>p = Pa/\p' = Pr) β program program:=.program (.pure ⟨rfl,rfl⟩)
theorem qpy {v:Value} {f:Int->Sem α} (h:∀ n,Dead Pa (f n)):Dead Pa (asInt v >>= f):=fun w=>by
 cases v with
 | int k n=>exact h n w
 | pointer a=>cases a <;> exact ⟨_,w,rfl,trivial⟩
 | _=>exact ⟨_,w,rfl,trivial⟩
theorem zw (u:Unsupported) (h:(match u with | .initOrder _=>false | _=>true) = true):Dead Pa (unsupported u:Sem α):=Dead.halt (by cases u <;> first | trivial | cases h)
theorem qb6 {a b:Nat} {k:Kd} (hb:β a b k):SR Pa Pr (fun _ x x'=>ShR k x x') β (shape a) (shape b):=.shape hb fun s s' hs=>.pure hs
theorem ShR.some {k:Kd} {s s':Option (TypeId × Nat)} (h:ShR k s s'):s'.isSome = s.isSome:=by
 rcases h with ⟨_,rfl⟩ | ⟨_,⟨n,rfl⟩,h⟩
 ·rfl
 ·simpa using h
theorem Kd.sh0 {k:Kd} (h:k.qdi = false):k.sh = 0:=by cases k <;> first | rfl | cases h
def NbR (β:Bl) (x x':Option (Addr × Bool)):Prop:=(x = none/\x' = none)\/∃ a a' l,x = some (a,l)/\x' = some (a',l)/\AdR β a a'
theorem qmj {a b:Nat} {k:Kd} (hb:β a b k):SR Pa Pr (fun β x x'=>NbR β x x') β (numberAt a) (numberAt b):=by
 unfold numberAt
 refine .bnd (qb6 hb) fun β1 s s' e hs=>?_
 rw [hs.some]
 split
 ·exact .ret (.inl ⟨rfl,rfl⟩)
 ·refine .getObj (e _ _ _ hb) fun o o' ho=>?_
  cases ho <;> first | exact .ret (.inl ⟨rfl,rfl⟩) | exact .ret (.inr ⟨_,_,_,rfl,rfl,_,by assumption,by assumption,by assumption⟩)
theorem qkx {a b:Nat} {k:Kd} (hb:β a b k):SR Pa Pr (fun _ x x'=>x = none/\x' = none) β (viewAt a) (viewAt b):=by
 unfold viewAt
 refine .bnd (qb6 hb) fun β1 s s' e hs=>?_
 rw [hs.some]
 split
 ·exact .ret ⟨rfl,rfl⟩
 ·refine .getObj (e _ _ _ hb) fun o o' ho=>?_
  cases ho <;> exact .ret ⟨rfl,rfl⟩
theorem qgl {a a':Addr} (h:AdR β a a'):SR Pa Pr (fun _ _ _=>True) β (noView a) (noView a'):=by
 obtain ⟨k,h1,h2,h3⟩:=h
 unfold noView
 refine .bnd (qkx h1) fun β1 s s' e hs=>?_
 obtain ⟨rfl,rfl⟩:=hs
 exact .ret trivial
theorem qgm {a a':Addr} (h:AdR β a a'):SR Pa Pr (fun β x x'=>AdR β x.1 x'.1/\x'.2 = x.2) β (behindNumber a) (behindNumber a'):=by
 obtain ⟨k,h1,h2,h3⟩:=h
 unfold behindNumber
 refine .bnd (qmj h1) fun β1 s s' e hs=>?_
 rcases hs with ⟨rfl,rfl⟩ | ⟨x,x',l,rfl,rfl,hx⟩
 ·exact .ret ⟨⟨k,e _ _ _ h1,h2,h3⟩,rfl⟩
 ·exact .ret ⟨hx,rfl⟩
include S in
theorem qhw (t:TypeId):Pr.cellsOf t = Pa.cellsOf t:=by unfold Program.cellsOf;rw [S.info]
include S in
theorem qpz (t:TypeId):Pr.bytesOf t = Pa.bytesOf t:=by unfold Program.bytesOf;rw [S.info]
include S in
theorem qsu {a a':Addr} (h:∃ k,k.qdi = false/\β a.block a'.block k/\a'.off = a.off + k.sh/\a'.spot = a.spot):SR Pa Pr (fun _ x x'=>x' = x) β (byteOf a) (byteOf a'):=by
 obtain ⟨k,hk,h1,h2,h3⟩:=h
 have h0:AdR β a a':=⟨k,h1,h2,h3⟩
 rw [Kd.sh0 hk,Nat.add_zero] at h2
 unfold byteOf
 rw [h3]
 split
 ·exact .ret rfl
 ·refine .bnd qbl fun β0 p p' e0 hp=>?_
  obtain ⟨rfl,rfl⟩:=hp
  replace h0:=h0.mono e0
  replace h1:=e0 _ _ _ h1
  refine .bnd (qgl h0) fun β1 _ _ e _=>?_
  refine .bnd (qb6 (e _ _ _ h1)) fun β2 s s' e2 hs=>?_
  rcases hs with ⟨_,rfl⟩ | ⟨hs,_⟩
  case inr=>rw [hk] at hs;cases hs
  cases s' with
  | none=>exact .dead (qd _)
  | some p =>
   obtain ⟨el,n⟩:=p
   simp only [qhw S,qpz S,S.byte,h2]
   split
   ·exact .ret rfl
   ·split
    ·exact .ret rfl
    ·exact .dead (qd _)
theorem qmk {a a':Addr} (h:AdR β a a') (l:Bool):SR Pa Pr (fun β=>VR β) β (asNumber a l) (asNumber a' l):=by
 obtain ⟨k,h1,h2,h3⟩:=h
 exact .new (.num l h1 h2 h3) (by decide) fun β' x y e hb=>.pure (.ptr _ _ hb)
include S in
theorem qky {a a':Addr} (h:AdR β a a') (ts:Array TypeId) (t:TypeId) {v v':Value} (hv:VR β v v') :
  SR Pa Pr (fun β x x'=>∃ b b',x = .pointer (some b)/\x' = .pointer (some b')/\AdR β b b') β (Builtin.unsafeAdd_ ts t #[.pointer (some a),v]) (Builtin.unsafeAdd_ ts t #[.pointer (some a'),v']):=by
 have h0:=h
 obtain ⟨k,h1,h2,h3⟩:=h
 refine .bnd (qd7 hv) fun β1 n n' e hn=>?_
 subst hn
 dsimp only
 split
 ·refine .bnd (qkx (e _ _ _ h1)) fun β2 s s' e2 hs=>?_
  obtain ⟨rfl,rfl⟩:=hs
  exact .ret ⟨_,_,rfl,rfl,(h0.mono e).mono e2⟩
 ·split
  ·first | exact .dead ((zw _ rfl).bnd _) | exact .dead (zw _ rfl)
  ·refine .bnd (qb6 (e _ _ _ h1)) fun β2 s s' e2 hs=>?_
   rcases hs with ⟨hk,rfl⟩ | ⟨_,⟨m,rfl⟩,_⟩
   case inr =>
    refine .dead ?_
    refine qa8 ?_
    have hz:Pa.cellsOf qt4 = 0:=by unfold Program.cellsOf;rw [S.bad];rfl
    have hn:cellAtBytes Pa Pa.depth qt4 (m / Pa.cellsOf qt4) a.off n' = none:=by unfold cellAtBytes;simp [hz]
    rw [hn]
    refine zw _ ?_;rfl
   rw [Kd.sh0 hk,Nat.add_zero] at h2
   cases s' with
   | none=>exact .dead (zw _ rfl)
   | some p =>
    obtain ⟨el,m⟩:=p
    refine .bnd qbl fun β3 p p' e3 hp=>?_
    obtain ⟨rfl,rfl⟩:=hp
    simp only [qhw S,S.back,h2]
    split
    ·exact .ret ⟨_,_,rfl,rfl,k,e3 _ _ _ (e2 _ _ _ (e _ _ _ h1)),(by rw [Kd.sh0 hk];rfl),h3⟩
    ·exact .dead (zw _ rfl)
include S in
theorem vg {t:TypeId} {x x' y y':Value} (hx:VR β x x') (hp:∃ a,x = .pointer a) (hy:VR β y y') :
  SR Pa Pr (fun β=>VR β) β (movedNumber t x y) (movedNumber t x' y'):=by
 unfold movedNumber
 refine .bnd (xu S.toAlike t) fun β1 d d' e h1=>?_
 obtain ⟨rfl,h1⟩:=h1
 dsimp only
 split
 ·first | exact .dead ((zw _ rfl).bnd _) | exact .dead (zw _ rfl)
 ·obtain ⟨p,rfl⟩:=hp
  cases hx with
  | ptr0 =>
   simp only
   refine .dead ?_
   refine qpy fun n=>?_
   dsimp only
   split
   ·refine zw _ ?_;rfl
   ·split
    ·refine (zw _ ?_).bnd _;rfl
    ·refine zw _ ?_;rfl
  | ptr o s h =>
   simp only
   have A:AdR β1 ⟨_,o,s⟩ ⟨_,o + _,s⟩:=⟨_,e _ _ _ h,rfl,rfl⟩
   refine .bnd (qgm A) fun β2 p p' e2 hpp=>?_
   obtain ⟨a,l⟩:=p
   obtain ⟨a',l'⟩:=p'
   obtain ⟨ha,hl⟩:=hpp
   simp only at ha hl ⊢
   subst hl
   refine .bnd (qky S ha #[] t ((hy.mono e).mono e2)) fun β3 v v' e3 hv=>?_
   obtain ⟨b,b',rfl,rfl,hb⟩:=hv
   exact qmk hb _
end
end Go.Proofs.Ytcdclihinmdgiaa.sq
namespace Go.Proofs.Ytcdclihinmdgiaa.sq
open Go
set_option linter.unusedVariables false
variable [Cal]
section
variable {Pa Pr:Program} (S:Alike3 Pa Pr) {β:Bl} {α α' γ γ':Type} {RA:Bl->α->α'->Prop}
include S in
theorem qv4 {a b:Addr} {f:Nat × Nat->Sem α}:Dead Pa (Op.twoPlaces a b >>= f):=by
 refine Dead.bnd ?_ f
 unfold Op.twoPlaces
 dsimp only
 refine qa8 ?_
 rw [if_pos (by simp [S.none])]
 refine (zw _ ?_).bnd _;rfl
include S in
theorem qhx (k:IntKind) {a a':Addr} (h:AdR β a a') (n:Int):SR Pa Pr (fun β=>VR β) β (Op.addrMod k a n) (Op.addrMod k a' n):=by
 have h0:=h
 obtain ⟨kk,h1,h2,h3⟩:=h
 unfold Op.addrMod
 refine .bnd (qb6 h1) fun β1 s s' e hs=>?_
 rcases hs with ⟨hk,rfl⟩ | ⟨_,⟨m,rfl⟩,_⟩
 rotate_left
 ·refine .dead (qgk fun i hi=>?_)
  rw [S.bad] at hi;cases hi
 cases s' with
 | none=>refine .dead ?_;refine zw _ ?_;rfl
 | some p =>
  obtain ⟨el,m⟩:=p
  dsimp only
  refine .bnd (vw S.toAlike el) fun β2 i i' e2 hi=>?_
  obtain ⟨rfl,hi⟩:=hi
  split
  ·refine .dead ?_;refine (zw _ ?_).bnd _;rfl
  ·refine .bnd (qsu S ⟨kk,hk,e2 _ _ _ (e _ _ _ h1),h2,h3⟩) fun β3 x x' e3 hx=>?_
   subst hx
   exact .ret (.int _ _)
theorem qv5 (op:BinOp) (k k':IntKind) (t:TypeId) (a b:Int) (h1:op ≠ .eql) (h2:op ≠ .neq):SR Pa Pr (fun β=>VR β) β (binOp op t (.int k a) (.int k' b)) (binOp op t (.int k a) (.int k' b)):=by
 have hp:∀ {β:Bl} (m:String),SR Pa Pr (fun β=>VR β) β (runtimePanic (.error m):Sem Value) (runtimePanic (.error m)):=fun m=>.dead (qy rfl)
 unfold binOp
 cases op <;> simp only <;> first
  | (unfold Op.shift;dsimp only;split <;> first | exact .ret (.int _ _) | exact hp _ | exact .dead (qd _))
  | (split <;> first
    | exact .dead (qd _)
    | exact .ret (.int _ _)
    | exact .ret (.bool _)
    | (unfold Op.intDiv;split <;> first | exact hp _ | exact .ret (.int _ _) | exact .dead (qd _)))
  | exact absurd rfl h1
  | exact absurd rfl h2
theorem qv6 (op:BinOp) (t:TypeId) (a b:ByteArray):SR Pa Pr (fun β=>VR β) β (binOp op t (.string a) (.string b)) (binOp op t (.string a) (.string b)):=by
 unfold binOp
 cases op <;> simp only [Op.stringOp] <;> first
  | exact .ret (.bool _)
  | exact .dead (qd _)
  | (split <;> first | exact .ret (.string _) | (refine .dead ?_;refine zw _ ?_;rfl))
def oth:Value->Bool
 | .int .. | .string _ | .pointer _ | .float .. | .complex ..=>false
 | _=>true
theorem qsv {op:BinOp} {t:TypeId} {x y:Value} (h1:op ≠ .eql) (h2:op ≠ .neq) (hx:oth x = true):Dead Pa (binOp op t x y):=by
 cases x <;> first | cases hx | skip
 all_goals
  cases op <;> first | exact absurd rfl h1 | exact absurd rfl h2 | skip
  all_goals (cases y <;> first | exact qd _ | exact zw .addressObserved rfl)
theorem qsw {op:BinOp} {t:TypeId} {x y:Value} (h1:op ≠ .eql) (h2:op ≠ .neq) (hy:oth y = true):Dead Pa (binOp op t x y):=by
 cases y <;> first | cases hy | skip
 all_goals
  cases op <;> first | exact absurd rfl h1 | exact absurd rfl h2 | skip
  all_goals (cases x <;> first | exact qd _ | exact zw .addressObserved rfl | (rename_i q;cases q <;> first | exact qd _ | exact zw .addressObserved rfl))
include S in
theorem q2g {n:Nat} {t:TypeId} (hf:qb5 Pa n t = true) {x x' y y':Value} (hx:VR β x x') (hy:VR β y y'):SR Pa Pr (fun β=>VR β) β (binOp .eql t x y) (binOp .eql t x' y'):=by
 have ge:SR Pa Pr (fun β=>VR β) β (do pure (.bool (<-Op.equal t x y)):Sem Value) (do pure (.bool (<-Op.equal t x' y'))) :=
  .bnd (qbk S.toAlike2 n _ t hf hx hy) fun β1 b b' e hb=>by subst hb;exact .ret (.bool _)
 cases hx with
 | int k a =>
  cases hy with
  | int k' b =>
   unfold binOp
   dsimp only
   split
   ·exact .dead (qd _)
   ·exact .ret (.bool _)
  | _=>exact ge
 | string a =>
  cases hy with
  | string b=>exact .ret (.bool _)
  | _=>exact ge
 | _ =>
  cases hy with
  | _=>exact ge
include S in
theorem q2h {n:Nat} {t:TypeId} (hf:qb5 Pa n t = true) {x x' y y':Value} (hx:VR β x x') (hy:VR β y y'):SR Pa Pr (fun β=>VR β) β (binOp .neq t x y) (binOp .neq t x' y'):=by
 have ge:SR Pa Pr (fun β=>VR β) β (do pure (.bool (!(<-Op.equal t x y))):Sem Value) (do pure (.bool (!(<-Op.equal t x' y')))) :=
  .bnd (qbk S.toAlike2 n _ t hf hx hy) fun β1 b b' e hb=>by subst hb;exact .ret (.bool _)
 cases hx with
 | int k a =>
  cases hy with
  | int k' b =>
   unfold binOp
   dsimp only
   split
   ·exact .dead (qd _)
   ·exact .ret (.bool _)
  | _=>exact ge
 | string a =>
  cases hy with
  | string b=>exact .ret (.bool _)
  | _=>exact ge
 | _ =>
  cases hy with
  | _=>exact ge
theorem jc {α:Type}:Dead Pa (unsupported .addressObserved:Sem α):=zw _ rfl
def q3a (P:Program) (t:TypeId):Bool:=match P.underlying t with
 | some (.pointer _)=>true
 | _=>false
include S in
theorem qgn (d:Nat) {t:TypeId} (hp:q3a Pa t = true) {x x':Value} (hx:VR β x x'):SR Pa Pr (fun _ b b'=>b' = b) β (Op.equalIn d t x (.pointer none)) (Op.equalIn d t x' (.pointer none)):=by
 cases d with
 | zero=>exact .dead (qm _ (fun b e=>by cases e))
 | succ d =>
  unfold Op.equalIn
  refine .bnd (xu S.toAlike t) fun β1 u u' e h1=>?_
  obtain ⟨rfl,h1⟩:=h1
  unfold q3a at hp
  rw [h1] at hp
  replace hx:=hx.mono e
  cases u' with
  | pointer el=>cases hx <;> first | exact .ret rfl | exact .dead (qd _)
  | _=>cases hp
include S in
theorem qsx {op:BinOp} (ho:op = .eql\/op = .neq) {t:TypeId} (hp:q3a Pa t = true) {x x':Value} (hx:VR β x x'):SR Pa Pr (fun β=>VR β) β (binOp op t x (.pointer none)) (binOp op t x' (.pointer none)):=by
 rcases ho with rfl | rfl
 ·have ge:SR Pa Pr (fun β=>VR β) β (do pure (.bool (<-Op.equal t x (.pointer none))):Sem Value) (do pure (.bool (<-Op.equal t x' (.pointer none)))) :=
   .bnd (qgn S _ hp hx) fun β1 b b' e hb=>by subst hb;exact .ret (.bool _)
  cases hx <;> exact ge
 ·have ge:SR Pa Pr (fun β=>VR β) β (do pure (.bool (!(<-Op.equal t x (.pointer none)))):Sem Value) (do pure (.bool (!(<-Op.equal t x' (.pointer none))))) :=
   .bnd (qgn S _ hp hx) fun β1 b b' e hb=>by subst hb;exact .ret (.bool _)
  cases hx <;> exact ge
include S in
theorem qv7 {op:BinOp} {n:Nat} {t:TypeId} (hf:qb5 Pa n t = true) {x x' y y':Value} (hx:VR β x x') (hy:VR β y y'):SR Pa Pr (fun β=>VR β) β (binOp op t x y) (binOp op t x' y'):=by
 by_cases h1:op = .eql
 ·subst h1;exact q2g S hf hx hy
 by_cases h2:op = .neq
 ·subst h2;exact q2h S hf hx hy
 by_cases ox:oth x = true
 ·exact .dead (qsv h1 h2 ox)
 by_cases oy:oth y = true
 ·exact .dead (qsw h1 h2 oy)
 have nu:∀ {f:TypeDesc->Sem Value} {f':TypeDesc->Sem Value},(∀ β' u,Ext β β'->Pa.underlying t = some u->u ≠ .unsafePointer->SR Pa Pr (fun β=>VR β) β' (f u) (f' u))->SR Pa Pr (fun β=>VR β) β (underlying t >>= f) (underlying t >>= f'):=by
  intro f f' h
  refine .bnd (xu S.toAlike t) fun β1 u u' e hu=>?_
  obtain ⟨rfl,hu⟩:=hu
  refine h β1 u' e hu ?_
  rintro rfl
  cases n with
  | zero=>simp [qb5] at hf
  | succ n=>unfold qb5 at hf;rw [hu] at hf;cases hf
 have hx0:=hx
 have hy0:=hy
 cases hx with
 | int k a =>
  cases hy with
  | int k' b=>exact qv5 op _ _ t _ _ h1 h2
  | string b=>cases op <;> first | exact absurd rfl h1 | exact absurd rfl h2 | exact .dead (qd _)
  | ptr0=>cases op <;> first | exact absurd rfl h1 | exact absurd rfl h2 | exact .dead jc | exact vg S hy0 ⟨_,rfl⟩ hx0
  | ptr o s h =>
   have A:AdR β ⟨_,o,s⟩ ⟨_,o + _,s⟩:=⟨_,h,rfl,rfl⟩
   cases op <;> first | exact absurd rfl h1 | exact absurd rfl h2 | exact .dead jc | exact vg S hy0 ⟨_,rfl⟩ hx0 | exact .bnd (qgm A) (fun β1 p p' e (hp:AdR β1 p.1 p'.1/\p'.2 = p.2)=>qhx S _ hp.1 _)
  | _=>exact absurd rfl oy
 | string a =>
  cases hy with
  | int k' b=>cases op <;> first | exact absurd rfl h1 | exact absurd rfl h2 | exact .dead (qd _)
  | string b=>exact qv6 op t _ _
  | ptr0=>cases op <;> first | exact absurd rfl h1 | exact absurd rfl h2 | exact .dead jc
  | ptr o s h=>cases op <;> first | exact absurd rfl h1 | exact absurd rfl h2 | exact .dead jc
  | _=>exact absurd rfl oy
 | ptr0 =>
  cases hy with
  | int k' b =>
   cases op <;> first | exact absurd rfl h1 | exact absurd rfl h2 | exact .dead jc | exact vg S hx0 ⟨_,rfl⟩ (.int _ _) | skip
   refine nu fun β1 u e hu hne=>?_
   cases u <;> first | exact absurd rfl hne | exact vg S (hx0.mono e) ⟨_,rfl⟩ (hy0.mono e)
  | string b=>cases op <;> first | exact absurd rfl h1 | exact absurd rfl h2 | exact .dead jc
  | ptr0=>cases op <;> first | exact absurd rfl h1 | exact absurd rfl h2 | exact .dead jc
  | ptr o s h=>cases op <;> first | exact absurd rfl h1 | exact absurd rfl h2 | exact .dead jc
  | _=>exact absurd rfl oy
 | ptr o s h =>
  have A:AdR β ⟨_,o,s⟩ ⟨_,o + _,s⟩:=⟨_,h,rfl,rfl⟩
  cases hy with
  | int k' b =>
   cases op <;> first | exact absurd rfl h1 | exact absurd rfl h2 | exact .dead jc | exact vg S hx0 ⟨_,rfl⟩ (.int _ _) | exact .bnd (qgm A) (fun β1 p p' e (hp:AdR β1 p.1 p'.1/\p'.2 = p.2)=>qhx S _ hp.1 _) | skip
   refine nu fun β1 u e hu hne=>?_
   cases u <;> first | exact absurd rfl hne | exact vg S (hx0.mono e) ⟨_,rfl⟩ (hy0.mono e)
  | string b=>cases op <;> first | exact absurd rfl h1 | exact absurd rfl h2 | exact .dead jc
  | ptr0=>cases op <;> first | exact absurd rfl h1 | exact absurd rfl h2 | exact .dead jc
  | ptr o' s' h'=>cases op <;> first | exact absurd rfl h1 | exact absurd rfl h2 | exact .dead jc | exact .dead (qaa fun p=>qaa fun q=>qv4 S)
  | _=>exact absurd rfl oy
 | _=>exact absurd rfl ox
end
end Go.Proofs.Ytcdclihinmdgiaa.sq
namespace Go.Proofs.Ytcdclihinmdgiaa.sq
open Go
set_option linter.unusedVariables false
variable [Cal]
section
variable {Pa Pr:Program} (S:Alike3 Pa Pr) {β:Bl} {α α' γ γ':Type} {RA:Bl->α->α'->Prop}
theorem qv8 (op:UnOp) {x x':Value} (h:VR β x x'):SR Pa Pr (fun β=>VR β) β (Op.unary op x) (Op.unary op x'):=by
 unfold Op.unary
 cases h with
 | int k n=>cases op <;> first | exact .ret (.int _ _) | exact .dead (qd _)
 | bool b=>cases op <;> first | exact .ret (.bool _) | exact .dead (qd _)
 | ptr o s h=>cases op <;> first | exact .dead jc | exact .dead (qd _)
 | _=>cases op <;> exact .dead (qd _)
theorem qkz {σ:Type} {f f':Value->σ->Sem (ForInStep σ)} (h:∀ β v v' s,VR β v v'->SR Pa Pr (fun _ r r'=>r' = r) β (f v s) (f' v' s)):∀ {l l':List Value} {β:Bl} (s:σ),LR β l l'->SR Pa Pr (fun _ r r'=>r' = r) β (forIn l s f) (forIn l' s f')
 | [],_,β,s,hl=>by cases hl;simp only [List.forIn_nil];exact .ret rfl
 | v :: l,_,β,s,hl=>by
  cases hl with
  | cons hv ht =>
   simp only [List.forIn_cons]
   refine .bnd (h β v _ s hv) fun β1 r r' e hr=>?_
   subst hr
   cases r' with
   | done b=>exact .ret rfl
   | yield b=>exact qkz h b (ht.mono e)
theorem qv9 {x x':Value} (h:VR β x x'):SR Pa Pr (fun β=>VR β) β (Conv.bytesToString x) (Conv.bytesToString x'):=by
 unfold Conv.bytesToString
 cases h with
 | slice0 n c=>exact .ret (.string _)
 | slice o s n c h =>
  refine .bnd (qa7 n 0 ⟨_,h,rfl,rfl⟩ .nil) fun β1 xs xs' e hx=>?_
  dsimp only
  rw [<-Array.forIn_toList,<-Array.forIn_toList]
  refine .bnd (qkz (fun β v v' s hv=>?_) _ hx.toList) fun β2 r r' e2 hr=>?_
  ·cases hv with
   | int k n =>
    cases k <;> first | exact .ret rfl | exact .dead (qd _)
   | _=>exact .dead (qd _)
  ·subst hr;exact .ret (.string _)
 | _=>exact .dead (qd _)
def qsy (P:Program) (src dst:TypeId):Bool:=match P.underlying src,P.underlying dst with
 | some (.int _),some (.int _)=>true
 | some (.slice e),some .string=>match P.underlying e with
  | some (.int .u8)=>true
  | _=>false
 | _,_=>false
include S in
theorem qp0 {src dst:TypeId} (hc:qsy Pa src dst = true) {x x':Value} (h:VR β x x'):SR Pa Pr (fun β=>VR β) β (convert src dst x) (convert src dst x'):=by
 unfold convert
 refine .bnd (xu S.toAlike src) fun β1 u u' e hu=>?_
 obtain ⟨rfl,hu⟩:=hu
 refine .bnd (xu S.toAlike dst) fun β2 d d' e2 hd=>?_
 obtain ⟨rfl,hd⟩:=hd
 replace h:=(h.mono e).mono e2
 unfold qsy at hc
 rw [hu,hd] at hc
 have h0:=h
 cases u' <;> first | (simp at hc;done) | skip
 ·cases d' <;> first | (simp at hc;done) | skip
  cases h <;> first | exact .ret (.int _ _) | exact .dead jc | (refine .dead ?_;refine zw _ ?_;rfl)
 ·cases d' <;> first | (simp at hc;done) | skip
  rename_i el
  cases h with
  | int k n=>exact .ret (.string _)
  | string s=>exact .ret (.string _)
  | _ =>
   refine .bnd (xu S.toAlike el) fun β3 q q' e3 hq=>?_
   obtain ⟨rfl,hq⟩:=hq
   simp only [hq] at hc
   split at hc
   ·rename_i hh;cases hh;exact qv9 (h0.mono e3)
   ·cases hc
end
end Go.Proofs.Ytcdclihinmdgiaa.sq
namespace Go.Proofs.Ytcdclihinmdgiaa.sq
open Go
set_option linter.unusedVariables false
variable [Cal]
inductive OVR (β:Bl):Option Value->Option Value->Prop
 | none:OVR β none none
 | some {v v':Value} (h:VR β v v'):OVR β (some v) (some v')
theorem OVR.mono {β β':Bl} (hb:Ext β β') {o o':Option Value} (h:OVR β o o'):OVR β' o o':=by
 cases h with
 | none=>exact .none
 | some h=>exact .some (h.mono hb)
section
variable {Pa Pr:Program} (S:Alike3 Pa Pr) {β:Bl} {α α' γ γ':Type} {RA:Bl->α->α'->Prop}
theorem qfj {x x':Value} (h:VR β x x') (y:Nat) (code:BoundsCode):SR Pa Pr (fun _ n n'=>n' = n) β (Instr.sliceBound x y code) (Instr.sliceBound x' y code):=by
 unfold Instr.sliceBound
 refine .bnd (qc9 h) fun β1 p p' e h1=>?_
 obtain ⟨rfl,_⟩:=h1
 obtain ⟨k,i⟩:=p'
 dsimp only
 split
 ·exact .ret rfl
 ·exact .dead (tq _ _ _ _)
theorem qcq (b:Bool) (len cap:Nat) {l l' h h' m m':Option Value} (hl:OVR β l l') (hh:OVR β h h') (hm:OVR β m m') :
  SR Pa Pr (fun _ n n'=>n' = n) β (Instr.sliceBounds b len cap l h m) (Instr.sliceBounds b len cap l' h' m'):=by
 have low:∀ {β:Bl} {l l':Option Value} (q m:Nat) (c:BoundsCode),OVR β l l'->SR Pa Pr (fun _ n n'=>n' = n) β
   (match l with | some v=>(Instr.sliceBound v q c >>= fun z=>(pure (z,q,m):Sem (Nat × Nat × Nat))) | none=>((pure 0:Sem Nat) >>= fun z=>(pure (z,q,m):Sem (Nat × Nat × Nat))))
   (match l' with | some v=>(Instr.sliceBound v q c >>= fun z=>(pure (z,q,m):Sem (Nat × Nat × Nat))) | none=>((pure 0:Sem Nat) >>= fun z=>(pure (z,q,m):Sem (Nat × Nat × Nat)))):=by
  intro β l l' q m c hl
  cases hl with
  | none=>exact .ret rfl
  | some h=>exact .bnd (qfj h _ _) fun β1 z z' e hz=>by subst hz;exact .ret rfl
 unfold Instr.sliceBounds
 dsimp only
 cases hm with
 | none =>
  cases hh with
  | none=>exact low _ _ _ hl
  | some hv =>
   refine .yw (.bnd (qfj hv _ _) fun β1 z z' e hz=>?_)
   subst hz
   exact low _ _ _ (hl.mono e)
 | some hv =>
  dsimp only
  refine .bnd (qfj hv _ _) fun β1 z z' e hz=>?_
  subst hz
  replace hh:=hh.mono e
  replace hl:=hl.mono e
  cases hh with
  | none=>exact .dead ((qd _).bnd _)
  | some hv =>
   dsimp only
   refine .bnd (qfj hv _ _) fun β2 y y' e2 hy=>?_
   subst hy
   exact low _ _ _ (hl.mono e2)
include S in
theorem qwa (t:TypeId) {x x':Value} (hx:VR β x x') {l l' h h' m m':Option Value} (hl:OVR β l l') (hh:OVR β h h') (hm:OVR β m m') :
  SR Pa Pr (fun β=>VR β) β (Instr.slice t x l h m) (Instr.slice t x' l' h' m'):=by
 unfold Instr.slice
 refine .bnd (xu S.toAlike t) fun β1 d d' e h1=>?_
 obtain ⟨rfl,h1⟩:=h1
 replace hx:=hx.mono e;replace hl:=hl.mono e;replace hh:=hh.mono e;replace hm:=hm.mono e
 have hms:m'.isSome = m.isSome:=by cases hm <;> rfl
 cases d' with
 | string =>
  cases hx with
  | string s =>
   dsimp only
   rw [hms]
   split
   ·exact .dead ((qd _).bnd _)
   ·refine .bnd (qcq _ _ _ hl hh .none) fun β2 z z' e2 hz=>?_
    subst hz
    exact .ret (.string _)
  | _=>exact .dead (qd _)
 | slice el =>
  cases hx with
  | slice0 n c =>
   refine .bnd (qcq _ _ _ hl hh hm) fun β2 z z' e2 hz=>?_
   subst hz
   refine .bnd (jm S.toAlike el) fun β3 q q' e3 hq=>?_
   obtain ⟨rfl,hq⟩:=hq
   split <;> exact .ret (.slice0 _ _)
  | slice o s n c hb =>
   refine .bnd (qcq _ _ _ hl hh hm) fun β2 z z' e2 hz=>?_
   subst hz
   refine .bnd (jm S.toAlike el) fun β3 q q' e3 hq=>?_
   obtain ⟨rfl,hq⟩:=hq
   have A:AdR β3 ⟨_,o,s⟩ ⟨_,o + _,s⟩:=⟨_,e3 _ _ _ (e2 _ _ _ hb),rfl,rfl⟩
   split
   ·exact .ret (A.slice _ _)
   ·exact .ret ((A.add _).slice _ _)
  | _=>exact .dead (qd _)
 | pointer arr =>
  have key:∀ {a a':Addr} {β:Bl} {l l' h h' m m':Option Value},AdR β a a'->OVR β l l'->OVR β h h'->OVR β m m'->SR Pa Pr (fun β=>VR β) β
    (underlying arr >>= fun d=>match d with
     | .array n elem=>Instr.sliceBounds false n n l h m >>= fun z=>sizeOf elem >>= fun q=>pure (.slice (some (if z.2.2 = z.1 then a else a.add (z.1 * q))) (z.2.1 - z.1) (z.2.2 - z.1))
     | _=>stuck "Slice: array type expected")
    (underlying arr >>= fun d=>match d with
     | .array n elem=>Instr.sliceBounds false n n l' h' m' >>= fun z=>sizeOf elem >>= fun q=>pure (.slice (some (if z.2.2 = z.1 then a' else a'.add (z.1 * q))) (z.2.1 - z.1) (z.2.2 - z.1))
     | _=>stuck "Slice: array type expected"):=by
   intro a a' β l l' h h' m m' ha hl hh hm
   refine .bnd (xu S.toAlike arr) fun β2 d d' e2 h2=>?_
   obtain ⟨rfl,h2⟩:=h2
   cases d' <;> try exact .dead (qd _)
   dsimp only
   refine .bnd (qcq _ _ _ (hl.mono e2) (hh.mono e2) (hm.mono e2)) fun β3 z z' e3 hz=>?_
   subst hz
   refine .bnd (jm S.toAlike _) fun β4 q q' e4 hq=>?_
   obtain ⟨rfl,hq⟩:=hq
   replace ha:=((ha.mono e2).mono e3).mono e4
   split
   ·exact .ret (ha.slice _ _)
   ·exact .ret ((ha.add _).slice _ _)
  cases hx with
  | ptr0=>exact .dead (Dead.bnd (qy (e:=.nilDeref) rfl) _)
  | ptr o s hb=>exact .yw (key ⟨_,hb,rfl,rfl⟩ hl hh hm)
  | _=>exact .dead (Dead.bnd (qd "pointer expected") _)
 | _=>first | exact .dead (qd _) | (cases hx <;> exact .dead (qd _))
include S in
theorem qp1 (t:TypeId) {x x':Value} (hx:VR β x x') {l l' h h' m m':Option Value} (hl:OVR β l l') (hh:OVR β h h') (hm:OVR β m m') :
  SR Pa Pr (fun β=>VR β) β (Instr.sliceAt t x l h m) (Instr.sliceAt t x' l' h' m'):=by
 unfold Instr.sliceAt
 refine .bnd (xu S.toAlike t) fun β1 d d' e h1=>?_
 obtain ⟨rfl,h1⟩:=h1
 replace hx:=hx.mono e;replace hl:=hl.mono e;replace hh:=hh.mono e;replace hm:=hm.mono e
 cases d' <;> try exact qwa S t hx hl hh hm
 dsimp only
 refine .bnd (qgj hx) fun β2 a a' e2 ha=>?_
 refine .bnd (qcq _ _ _ (hl.mono e2) (hh.mono e2) (hm.mono e2)) fun β3 z z' e3 hz=>?_
 subst hz
 refine .bnd (jm S.toAlike _) fun β4 q q' e4 hq=>?_
 obtain ⟨rfl,hq⟩:=hq
 replace ha:=(ha.mono e3).mono e4
 split
 ·exact .ret (ha.slice _ _)
 ·exact .ret ((ha.add _).slice _ _)
end
end Go.Proofs.Ytcdclihinmdgiaa.sq
namespace Go.Proofs.Ytcdclihinmdgiaa.sq
open Go
set_option linter.unusedVariables false
variable [Cal]
section
variable {Pa Pr:Program} (S:Alike3 Pa Pr) {β:Bl} {α α' γ γ':Type} {RA:Bl->α->α'->Prop}
theorem qz4 {δ σ:Type} {f f':δ->Sem σ} (h:∀ β x,SR Pa Pr (fun _ r r'=>r' = r) β (f x) (f' x)) (xs:Array δ) {β:Bl}:SR Pa Pr (fun _ r r'=>r' = r) β (xs.mapM f) (xs.mapM f'):=by
 have key:∀ (l:List δ) {β:Bl},SR Pa Pr (fun _ r r'=>r' = r) β (l.mapM f) (l.mapM f'):=by
  intro l
  induction l with
  | nil=>intro β;simp only [List.mapM_nil];exact .ret rfl
  | cons x l ih =>
   intro β
   simp only [List.mapM_cons]
   refine .bnd (h β x) fun β1 r r' e hr=>?_
   subst hr
   refine .bnd ih fun β2 q q' e2 hq=>?_
   subst hq
   exact .ret rfl
 rw [Array.mapM_eq_mapM_toList,Array.mapM_eq_mapM_toList]
 exact (key xs.toList).bind fun β1 r r' e hr=>by subst hr;exact .pure rfl
theorem ug {v:Value} (h:clo 20 v = true):AR β v.cells v.cells:=(qcd 20 v h).cells
include S in
theorem qwb {t:TypeId} (hz:ni Pa t = true) {l l':Array (Nat × Value)} (hp:PR β l.toList l'.toList):SR Pa Pr (fun β=>VR β) β (Instr.build t l) (Instr.build t l'):=by
 unfold Instr.build
 refine .bnd (tu S.toAlike hz) fun β1 z z' e hz=>?_
 obtain ⟨rfl,hz⟩:=hz
 have hc:=ug (β:=β1) hz
 refine .bnd (xu S.toAlike t) fun β2 d d' e2 h2=>?_
 obtain ⟨rfl,h2⟩:=h2
 replace hp:=(hp.mono e).mono e2
 cases d' <;> try exact .dead (qd _)
 ·refine .bnd (jm S.toAlike _) fun β3 q q' e3 hq=>?_
  obtain ⟨rfl,hq⟩:=hq
  rcases qi2 (fun i=>some (i * q',q')) (hp.mono e3) ((hc.mono e2).mono e3) with ⟨e1,e2⟩ | ⟨r,r',e1,e2,hr⟩
  ·simp only [e1,e2];exact .dead (qd _)
  ·simp only [e1,e2];exact .ret hr.agg
 ·rename_i fs
  refine .bnd (RA:=fun _ r r'=>r' = r) ?_ fun β3 pl pl' e3 hpl=>?_
  ·refine qz4 (fun β f=>?_) fs
   refine .bnd (jm S.toAlike _) fun β3 q q' e3 hq=>?_
   obtain ⟨rfl,hq⟩:=hq
   exact .ret rfl
  ·subst hpl
   rcases qi2 (fun i=>pl'[i]?) (hp.mono e3) ((hc.mono e2).mono e3) with ⟨e1,e2⟩ | ⟨r,r',e1,e2,hr⟩
   ·simp only [e1,e2];exact .dead (qd _)
   ·simp only [e1,e2];exact .ret hr.agg
theorem qp2:VR β (default:Value) (default:Value):=.bool _
theorem qz5 {xs:Array Value} (h:AR β xs xs) (i:Nat):VR β (xs[i]!) (xs[i]!):=by
 rw [Array.getElem!_eq_getD,Array.getD_eq_getD_getElem?]
 cases hx:xs[i]? with
 | none=>exact qp2
 | some v=>exact h.at_ i v v hx hx
theorem qaf {xs:Array Value} (h:AR β xs xs) (n:Nat):AR β ((Array.range n).map fun i=>xs[i % xs.size]!) ((Array.range n).map fun i=>xs[i % xs.size]!) :=
 AR.map fun i _=>qz5 h _
def qdj (P:Program) (t:TypeId):Bool:=match P.underlying t with
 | some (.slice e)=>ni P e
 | _=>true
include S in
theorem qi3 {t:TypeId} (hz:qdj Pa t = true) (n:Nat) {l l':Array (Nat × Value)} (hp:PR β l.toList l'.toList):SR Pa Pr (fun β=>VR β) β (Instr.buildSlice t n l) (Instr.buildSlice t n l'):=by
 unfold Instr.buildSlice
 refine .bnd (xu S.toAlike t) fun β1 d d' e h1=>?_
 obtain ⟨rfl,h1⟩:=h1
 unfold qdj at hz
 rw [h1] at hz
 cases d' <;> try exact .dead (qd _)
 rename_i el
 try simp only at hz
 try dsimp only
 refine .bnd (jm S.toAlike el) fun β2 q q' e2 hq=>?_
 obtain ⟨rfl,hq⟩:=hq
 replace hp:=(hp.mono e).mono e2
 have fin:∀ {β:Bl} (z:Array Value),AR β z z->PR β l.toList l'.toList->SR Pa Pr (fun β=>VR β) β
   (match Instr.fill (fun i=>some (i * q',q')) ((Array.range (n * q')).map fun x=>z[x % z.size]!) l.toList with
    | some cells=>newRow el cells >>= fun a=>pure (.slice (some a) n n)
    | _=>stuck "buildSlice: a part of the wrong size")
   (match Instr.fill (fun i=>some (i * q',q')) ((Array.range (n * q')).map fun x=>z[x % z.size]!) l'.toList with
    | some cells=>newRow el cells >>= fun a=>pure (.slice (some a) n n)
    | _=>stuck "buildSlice: a part of the wrong size"):=by
  intro β z hz hp
  rcases qi2 (fun i=>some (i * q',q')) hp (qaf hz (n * q')) with ⟨e1,e2⟩ | ⟨r,r',e1,e2,hr⟩
  ·rw [e1,e2];exact .dead (qd _)
  ·rw [e1,e2]
   exact .bnd (qai el hr) fun β3 a a' e3 ha=>.ret (ha.slice _ _)
 split
 ·refine .dead ?_;refine (zw _ ?_).bnd _;rfl
 ·split
  ·exact .yw (fin _ .nil hp)
  ·refine .bnd (tu S.toAlike hz) fun β3 z z' e3 h3=>?_
   obtain ⟨rfl,h3⟩:=h3
   exact .yw (fin _ (ug h3) (hp.mono e3))
theorem qbm (n:Nat):SR Pa Pr (fun _ _ _=>True) β (askRoom n) (askRoom n):=by
 unfold askRoom
 split
 ·exact .mark (.inl rfl) (.pure trivial)
 ·exact .ret trivial
include S in
theorem qk0 {t:TypeId} (hz:qdj Pa t = true) {x x' y y':Value} (hx:VR β x x') (hy:VR β y y'):SR Pa Pr (fun β=>VR β) β (Instr.makeSlice t x y) (Instr.makeSlice t x' y'):=by
 unfold Instr.makeSlice
 refine .bnd (xu S.toAlike t) fun β1 d d' e h1=>?_
 obtain ⟨rfl,h1⟩:=h1
 unfold qdj at hz
 rw [h1] at hz
 cases d' <;> try exact .dead (qd _)
 rename_i el
 try simp only at hz
 try dsimp only
 refine .bnd (qd7 (hx.mono e)) fun β2 q q' e2 hq=>?_
 subst hq
 refine .bnd (qd7 ((hy.mono e).mono e2)) fun β3 c c' e3 hc=>?_
 subst hc
 refine .bnd (vw S.toAlike el) fun β4 i i' e4 hi=>?_
 obtain ⟨rfl,hi⟩:=hi
 split
 ·refine .dead ?_
  split
  ·exact (qy rfl).bnd _
  ·split
   ·exact (qy rfl).bnd _
   ·exact qb4 fun n=>(qy (e:=.error _) rfl).bnd _
 ·refine .bnd (qbm _) fun β5 _ _ e5 _=>?_
  refine .bnd (jm S.toAlike el) fun β6 z z' e6 hz'=>?_
  obtain ⟨rfl,_⟩:=hz'
  split
  ·exact .yw (.bnd (qai el (qaf .nil _)) fun β7 a a' e7 ha=>.ret (ha.slice _ _))
  ·refine .bnd (tu S.toAlike hz) fun β7 w w' e7 h7=>?_
   obtain ⟨rfl,h7⟩:=h7
   exact .yw (.bnd (qai el (qaf (ug h7) _)) fun β8 a a' e8 ha=>.ret (ha.slice _ _))
def qp3 (P:Program) (t:TypeId):Bool:=match P.underlying t with
 | some (.chan _ _)=>false
 | _=>true
include S in
theorem q2i {t ty:TypeId} (hc:qp3 Pa t = true) {x x':Value} (hx:VR β x x'):SR Pa Pr (fun β=>VR β) β (Builtin.len_ #[t] ty #[x]) (Builtin.len_ #[t] ty #[x']):=by
 refine .bnd (xu S.toAlike t) fun β1 d d' e h1=>?_
 obtain ⟨rfl,h1⟩:=h1
 unfold qp3 at hc
 rw [h1] at hc
 replace hx:=hx.mono e
 cases d' with
 | chan=>cases hc
 | array n el=>exact .ret (.int _ _)
 | pointer arr =>
  refine .bnd (xu S.toAlike arr) fun β2 d d' e2 h2=>?_
  obtain ⟨rfl,h2⟩:=h2
  cases d' <;> try exact .dead (qd _)
  exact .ret (.int _ _)
 | string =>
  cases hx with
  | string s=>exact .ret (.int _ _)
  | _=>exact .dead (qd _)
 | slice el =>
  cases hx with
  | slice0 n c=>exact .ret (.int _ _)
  | slice o s n c hb=>exact .ret (.int _ _)
  | _=>exact .dead (qd _)
 | map k el =>
  cases hx with
  | map0=>exact .ret (.int _ _)
  | map hb =>
   refine .getObj hb fun o o' ho=>?_
   cases ho with
   | map t hs h =>
    refine .ret ?_
    rw [hs];exact .int _ _
   | _=>exact .dead (qd _)
  | _=>exact .dead (qd _)
 | _=>cases hx <;> exact .dead (qd _)
theorem qfk {x x':Value} (hx:VR β x x'):SR Pa Pr (fun _ n n'=>n' = n) β (Builtin.lenOf x) (Builtin.lenOf x'):=by
 cases hx <;> first | exact .ret rfl | exact .dead (qd _)
theorem jd (z n:Nat) {x x':Value} (hx:VR β x x'):SR Pa Pr (fun β=>AR β) β (Builtin.firstCells z n x) (Builtin.firstCells z n x'):=by
 cases hx with
 | slice0=>exact .ret .nil
 | slice o s m c hb=>exact qa7 (n * z) 0 ⟨_,hb,rfl,rfl⟩ .nil
 | string s=>exact .ret (AR.map fun _ _=>.int _ _)
 | _=>exact .dead (qd _)
include S in
theorem qz6 {t t2 ty:TypeId} {x x' y y':Value} (hx:VR β x x') (hy:VR β y y'):SR Pa Pr (fun β=>VR β) β (Builtin.copy_ #[t,t2] ty #[x,y]) (Builtin.copy_ #[t,t2] ty #[x',y']):=by
 refine .bnd (xu S.toAlike t) fun β1 d d' e h1=>?_
 obtain ⟨rfl,h1⟩:=h1
 cases d' <;> try exact .dead (qd _)
 rename_i el
 replace hx:=hx.mono e;replace hy:=hy.mono e
 cases hx with
 | slice0 m c =>
  dsimp only
  refine .bnd (qfk hy) fun β2 n n' e2 hn=>?_
  subst hn
  refine .bnd (jm S.toAlike el) fun β3 q q' e3 hq=>?_
  obtain ⟨rfl,hq⟩:=hq
  refine .bnd (jd _ _ ((hy.mono e2).mono e3)) fun β4 cs cs' e4 hcs=>?_
  exact .ret (.int _ _)
 | slice o s m c hb =>
  dsimp only
  refine .bnd (qfk hy) fun β2 n n' e2 hn=>?_
  subst hn
  refine .bnd (jm S.toAlike el) fun β3 q q' e3 hq=>?_
  obtain ⟨rfl,hq⟩:=hq
  refine .bnd (jd _ _ ((hy.mono e2).mono e3)) fun β4 cs cs' e4 hcs=>?_
  refine .bnd (yt _ _ 0 ⟨_,e4 _ _ _ (e3 _ _ _ (e2 _ _ _ hb)),rfl,rfl⟩ hcs.toList) fun β5 _ _ e5 _=>?_
  exact .ret (.int _ _)
 | _=>exact .dead (qd _)
end
end Go.Proofs.Ytcdclihinmdgiaa.sq
namespace Go.Proofs.Ytcdclihinmdgiaa.sq
open Go
set_option linter.unusedVariables false
variable [Cal]
def qjg {α:Type} (P:Program) (s:Sem α):Prop:=∀ w,∃ a,s.run P w = .ok a w
section
variable {Pa Pr:Program} (S:Alike3 Pa Pr) {β:Bl} {α α' γ γ':Type} {RA:Bl->α->α'->Prop}
theorem qjg.ret (a:α):qjg Pa (pure a:Sem α):=fun w=>⟨a,rfl⟩
theorem qjg.bnd {s:Sem α} {f:α->Sem γ} (h:qjg Pa s) (hf:∀ a,qjg Pa (f a)):qjg Pa (s >>= f):=fun w=>by
 obtain ⟨a,ha⟩:=h w
 obtain ⟨b,hb⟩:=hf a w
 exact ⟨b,by simp [Sem.run_bind,ha,hb]⟩
theorem qhy (a:Addr) (n:Nat):qjg Pa (Builtin.holdsCells a n):=by
 unfold Builtin.holdsCells
 refine qjg.bnd (fun w=>⟨_,rfl⟩) fun s=>?_
 cases s <;> exact .ret _
theorem qhz (size sLen n:Nat) (base:Option Addr) (x:Value):qjg Pa (Builtin.mayShare size sLen n base x):=by
 have tail:∀ (f:Bool->Sem Bool),(∀ b,qjg Pa (f b))->∀ b:Bool,qjg Pa (f b):=fun f h b=>h b
 have t2:qjg Pa (match x with
   | .slice (some b) _ _=>(Builtin.holdsCells b (n * size) >>= fun h=>pure (!h || base.any (·.block == b.block)):Sem Bool)
   | _=>pure false):=by
  cases x <;> try exact .ret _
  rename_i a _ _
  cases a <;> try exact .ret _
  exact qjg.bnd (qhy _ _) fun _=>.ret _
 unfold Builtin.mayShare
 dsimp only
 cases base with
 | none =>
  refine qjg.bnd (.ret _) fun b=>?_
  split
  ·exact .ret _
  ·exact t2
 | some q =>
  refine qjg.bnd (qhy _ _) fun b=>?_
  refine qjg.bnd (fun w=>⟨_,rfl⟩) fun u=>?_
  refine qjg.bnd (.ret _) fun v=>?_
  split
  ·exact .ret _
  ·exact t2
theorem qk1 {s:Sem α} {f:α->Sem γ} (h:qjg Pa s) (hf:∀ a,Dead Pa (f a)):Dead Pa (s >>= f):=fun w=>by
 obtain ⟨a,ha⟩:=h w
 obtain ⟨x,w',h1,h2⟩:=hf a w
 exact ⟨x,w',by simp [Sem.run_bind,ha,h1],h2⟩
def qi4 (P:Program) (t t2:TypeId):Bool:=qdj P t && (match P.underlying t2 with
 | some (.int _)=>false
 | _=>true)
include S in
theorem qsz {t t2 ty:TypeId} (hz:qi4 Pa t t2 = true) {x x' y y':Value} (hx:VR β x x') (hy:VR β y y'):SR Pa Pr (fun β=>VR β) β (Builtin.append_ #[t,t2] ty #[x,y]) (Builtin.append_ #[t,t2] ty #[x',y']):=by
 unfold qi4 at hz
 rw [Bool.and_eq_true] at hz
 obtain ⟨hz,ht2⟩:=hz
 refine .bnd (xu S.toAlike t) fun β1 d d' e h1=>?_
 obtain ⟨rfl,h1⟩:=h1
 unfold qdj at hz
 rw [h1] at hz
 cases d' <;> try exact .dead (qd _)
 rename_i el
 try simp only at hz
 replace hx:=hx.mono e;replace hy:=hy.mono e
 have hx0:=hx
 have zs:∀ {f f':Bool->Sem Value} {β:Bl},(∀ β',Ext β β'->SR Pa Pr (fun β=>VR β) β' (f false) (f' false)) ->
   ∀ {g:TypeDesc->Bool},(∀ d,(∀ k,d ≠ .int k)->g d = false)->SR Pa Pr (fun β=>VR β) β (underlying t2 >>= fun d=>(pure (g d):Sem Bool) >>= f) (underlying t2 >>= fun d=>(pure (g d):Sem Bool) >>= f'):=by
  intro f f' β h g hg
  refine .bnd (xu S.toAlike t2) fun β1 u u' e hu=>?_
  obtain ⟨rfl,hu⟩:=hu
  have:g u' = false:=hg u' fun k e=>by subst e;rw [hu] at ht2;cases ht2
  refine .yw ?_
  rw [this]
  exact h β1 e
 cases hx with
 | slice0 sLen sCap =>
  dsimp only
  refine .bnd (jm S.toAlike el) fun β2 q q' e2 hq=>?_
  obtain ⟨rfl,hq⟩:=hq
  refine zs (fun β3 e3=>?_) (fun d hd=>by cases d <;> first | rfl | exact absurd rfl (hd _))
  have hy3:=(hy.mono e2).mono e3
  have HX:=(hx0.mono e2).mono e3
  simp only [Bool.false_eq_true,if_false,Bool.not_false,if_true]
  refine .bnd (qfk hy3) fun β4 n n' e4 hn=>?_
  subst hn
  split
  ·refine .bnd (jd _ _ (hy3.mono e4)) fun β5 cs cs' e5 hcs=>?_
   exact .ret (.slice0 _ _)
  ·refine .bnd (vw S.toAlike el) fun β5 i i' e5 hi=>?_
   obtain ⟨rfl,hi⟩:=hi
   split
   ·exact .dead ((qy rfl).bnd _)
   ·refine .bnd (vw S.toAlike el) fun β6 i2 i2' e6 hi2=>?_
    obtain ⟨rfl,hi2⟩:=hi2
    split
    ·refine .dead ?_
     refine Dead.bnd ?_ _
     refine qk1 (qhz _ _ _ _ _) fun bb=>?_
     split
     ·exact fun w=>⟨_,w,rfl,trivial⟩
     ·refine zw _ ?_;rfl
    ·refine .bnd (RA:=fun _ a b=>b = a) (.choose fun n=>.pure rfl) fun β6' newCap nc' e6' hnc=>?_
     subst hnc
     refine .bnd (vw S.toAlike el) fun β7 i3 i3' e7 hi3=>?_
     obtain ⟨rfl,hi3⟩:=hi3
     refine .bnd (qbm _) fun β8 _ _ e8 _=>?_
     have E:=(((((e4.trans e5).trans e6).trans e6').trans e7).trans e8)
     refine .bnd (jd q' sLen (HX.mono E)) fun β9 old old' e9 hold=>?_
     refine .bnd (jd _ _ ((hy3.mono E).mono e9)) fun β10 nw nw' e10 hnw=>?_
     refine .bnd (tu S.toAlike hz) fun β11 z z' e11 hzz=>?_
     obtain ⟨rfl,hzz⟩:=hzz
     refine .bnd (qai el ((((hold.mono e10).mono e11).app (hnw.mono e11)).app (qaf (ug hzz) _))) fun β12 a a' e12 ha=>?_
     exact .ret (ha.slice _ _)
 | slice o s sLen sCap hb =>
  dsimp only
  refine .bnd (jm S.toAlike el) fun β2 q q' e2 hq=>?_
  obtain ⟨rfl,hq⟩:=hq
  refine zs (fun β3 e3=>?_) (fun d hd=>by cases d <;> first | rfl | exact absurd rfl (hd _))
  have hy3:=(hy.mono e2).mono e3
  have HX:=(hx0.mono e2).mono e3
  have A:AdR β3 ⟨_,o,s⟩ ⟨_,o + _,s⟩:=⟨_,e3 _ _ _ (e2 _ _ _ hb),rfl,rfl⟩
  simp only [Bool.false_eq_true,if_false,Bool.not_false,if_true]
  refine .bnd (qfk hy3) fun β4 n n' e4 hn=>?_
  subst hn
  split
  ·refine .bnd (jd _ _ (hy3.mono e4)) fun β5 cs cs' e5 hcs=>?_
   refine .bnd (yt _ _ 0 (((A.mono e4).mono e5).add _) hcs.toList) fun β6 _ _ e6 _=>?_
   exact .ret ((((A.mono e4).mono e5).mono e6).slice _ _)
  ·refine .bnd (vw S.toAlike el) fun β5 i i' e5 hi=>?_
   obtain ⟨rfl,hi⟩:=hi
   split
   ·exact .dead ((qy rfl).bnd _)
   ·refine .bnd (vw S.toAlike el) fun β6 i2 i2' e6 hi2=>?_
    obtain ⟨rfl,hi2⟩:=hi2
    split
    ·refine .dead ?_
     refine Dead.bnd ?_ _
     refine qk1 (qhz _ _ _ _ _) fun bb=>?_
     split
     ·exact fun w=>⟨_,w,rfl,trivial⟩
     ·refine zw _ ?_;rfl
    ·refine .bnd (RA:=fun _ a b=>b = a) (.choose fun n=>.pure rfl) fun β6' newCap nc' e6' hnc=>?_
     subst hnc
     refine .bnd (vw S.toAlike el) fun β7 i3 i3' e7 hi3=>?_
     obtain ⟨rfl,hi3⟩:=hi3
     refine .bnd (qbm _) fun β8 _ _ e8 _=>?_
     have E:=(((((e4.trans e5).trans e6).trans e6').trans e7).trans e8)
     refine .bnd (jd q' sLen (HX.mono E)) fun β9 old old' e9 hold=>?_
     refine .bnd (jd _ _ ((hy3.mono E).mono e9)) fun β10 nw nw' e10 hnw=>?_
     refine .bnd (tu S.toAlike hz) fun β11 z z' e11 hzz=>?_
     obtain ⟨rfl,hzz⟩:=hzz
     refine .bnd (qai el ((((hold.mono e10).mono e11).app (hnw.mono e11)).app (qaf (ug hzz) _))) fun β12 a a' e12 ha=>?_
     exact .ret (ha.slice _ _)
 | _=>exact .dead (qd _)
end
end Go.Proofs.Ytcdclihinmdgiaa.sq
namespace Go.Proofs.Ytcdclihinmdgiaa.sq
open Go
set_option linter.unusedVariables false
variable [Cal]
section
variable {Pa Pr:Program} (S:Alike3 Pa Pr) {β:Bl} {α α' γ γ':Type} {RA:Bl->α->α'->Prop}
theorem ny {a b:Nat} {k:Kd} (hb:β a b k):SR Pa Pr (fun β o o'=>OR β k o o') β (getObj a) (getObj b):=.getObj hb fun o o' ho=>.pure ho
include S in
theorem uy (b b':Bool):∀ (n d:Nat) (t:TypeId) {β:Bl} {v v':Value},qb5 Pa n t = true->VR β v v'->SR Pa Pr (fun _ _ _=>True) β (Instr.checkKey b d t v) (Instr.checkKey b' d t v')
 | _,0,t,β,v,v',hf,hv=>.dead (zw _ rfl)
 | 0,d + 1,t,β,v,v',hf,hv=>by simp [qb5] at hf
 | n + 1,d + 1,t,β,v,v',hf,hv=>by
  unfold Instr.checkKey
  refine .bnd (xu S.toAlike t) fun β1 u u' e h1=>?_
  obtain ⟨rfl,h1⟩:=h1
  unfold qb5 at hf
  rw [h1] at hf
  replace hv:=hv.mono e
  cases u' <;> first | (cases hf;done) | skip
  ·exact .ret trivial
  ·exact .ret trivial
  ·exact .ret trivial
  ·rename_i len el
   cases hv with
   | agg a1 a2 =>
    rename_i xs xs'
    have X:AR β1 xs xs':=⟨a1,a2⟩
    dsimp only
    simp only [Std.Legacy.Range.forIn_eq_forIn_range']
    refine .bnd (qd8 _ (β:=β1) () fun f hfm β2 s e2=>?_) fun _ _ _ _ _=>.ret trivial
    refine .bnd (jm S.toAlike el) fun β3 q q' e3 hq=>?_
    obtain ⟨rfl,hq⟩:=hq
    refine .bnd (qcp S.toAlike el ((X.mono e2).mono e3) _) fun β4 u u' e4 hu=>?_
    refine .bnd (uy b b' n d el hf hu) fun β5 _ _ e5 _=>?_
    exact .ret rfl
   | _=>exact .dead (qd _)
  ·rename_i fs
   cases hv with
   | agg a1 a2 =>
    rename_i xs xs'
    have X:AR β1 xs xs':=⟨a1,a2⟩
    dsimp only
    rw [<-Array.forIn_toList,<-Array.forIn_toList]
    refine .bnd (qd8 fs.toList (β:=β1) () fun f hfm β2 s e2=>?_) fun _ _ _ _ _=>.ret trivial
    split
    ·refine .bnd (qcp S.toAlike f.type (X.mono e2) _) fun β4 u u' e4 hu=>?_
     refine .bnd (uy b b' n d f.type (by
      have:=Array.all_eq_true_iff_forall_mem.1 hf f (by simpa using hfm)
      exact this) hu) fun β5 _ _ e5 _=>?_
     exact .ret rfl
    ·exact .ret rfl
   | _=>exact .dead (qd _)
inductive LE (β:Bl):List MapEntry->List MapEntry->Prop
 | nil:LE β [] []
 | cons {e e':MapEntry} {l l':List MapEntry} (h:ER β e e') (t:LE β l l'):LE β (e :: l) (e' :: l')
theorem LE.of {l l':List MapEntry} (hs:l.length = l'.length) (h:∀ (i:Nat) (v v':MapEntry),l[i]? = some v->l'[i]? = some v'->ER β v v'):LE β l l':=by
 induction l generalizing l' with
 | nil=>cases l' with
  | nil=>exact .nil
  | cons a l'=>simp at hs
 | cons v l ih=>cases l' with
  | nil=>simp at hs
  | cons v' l'=>exact .cons (h 0 _ _ rfl rfl) (ih (by simpa using hs) fun i u u' h1 h2=>h (i + 1) u u' (by simpa using h1) (by simpa using h2))
theorem LE.at_ {l l':List MapEntry} (h:LE β l l'):∀ (i:Nat) (v v':MapEntry),l[i]? = some v->l'[i]? = some v'->ER β v v':=by
 induction h with
 | nil=>intro i v v' h1;simp at h1
 | cons hv _ ih =>
  intro i v v' h1 h2
  cases i with
  | zero=>simp at h1 h2;subst h1;subst h2;exact hv
  | succ i=>exact ih i v v' (by simpa using h1) (by simpa using h2)
theorem LE.size {l l':List MapEntry} (h:LE β l l'):l.length = l'.length:=by
 induction h with
 | nil=>rfl
 | cons _ _ ih=>simp [ih]
theorem LE.mono {β':Bl} (hb:Ext β β') {l l':List MapEntry} (h:LE β l l'):LE β' l l':=by
 induction h with
 | nil=>exact .nil
 | cons h _ ih=>exact .cons (h.mono hb) ih
theorem LE.arr {es es':Array MapEntry} (hs:es.size = es'.size) (h:∀ (i:Nat) (e e':MapEntry),es[i]? = some e->es'[i]? = some e'->ER β e e'):LE β es.toList es'.toList :=
 .of (by simpa using hs) fun i v v' h1 h2=>h i v v' (by simpa using h1) (by simpa using h2)
theorem LE.or {es es':Array MapEntry} (h:LE β es.toList es'.toList) (t:Nat):OR β .map (.map es t) (.map es' t) :=
 .map t (by simpa using h.size) fun i e e' h1 h2=>h.at_ i e e' (by simpa using h1) (by simpa using h2)
theorem LE.snoc {l l':List MapEntry} (h:LE β l l') {e e':MapEntry} (he:ER β e e'):LE β (l ++ [e]) (l' ++ [e']):=by
 induction h with
 | nil=>exact .cons he .nil
 | cons h _ ih=>exact .cons h ih
theorem qml (k:TypeDesc) {x x' y y':Value} (hx:VR β x x') (hy:VR β y y'):Instr.sameNow k x' y' = Instr.sameNow k x y:=by
 cases hx <;> cases hy <;> cases k <;> rfl
inductive FR (β:Bl):Option (Nat × Value)->Option (Nat × Value)->Prop
 | none:FR β none none
 | some (i:Nat) {v v':Value} (h:VR β v v'):FR β (some (i,v)) (some (i,v'))
theorem qgo (k:TypeDesc) {x x':Value} (hx:VR β x x'):∀ {l l':List MapEntry} (i:Nat),LE β l l' ->
  (Instr.findNow k x l i = none/\Instr.findNow k x' l' i = none)\/∃ r r',Instr.findNow k x l i = some r/\Instr.findNow k x' l' i = some r'/\FR β r r'
 | [],_,i,h=>by cases h;exact .inr ⟨_,_,rfl,rfl,.none⟩
 | e :: l,_,i,h=>by
  cases h with
  | cons he ht =>
   unfold Instr.findNow
   rw [qml k hx he.key]
   cases Instr.sameNow k x e.key with
   | none=>exact .inl ⟨rfl,rfl⟩
   | some b =>
    cases b with
    | true=>exact .inr ⟨_,_,rfl,rfl,.some i he.val⟩
    | false=>exact qgo k hx (i + 1) ht
include S in
theorem qd9 {n:Nat} {t:TypeId} (hf:qb5 Pa n t = true):∀ {l l':List MapEntry} {x x':Value} {β:Bl} (i:Nat),VR β x x'->LE β l l'->SR Pa Pr (fun β=>FR β) β (Instr.findAsking t x l i) (Instr.findAsking t x' l' i)
 | [],_,x,x',β,i,hx,h=>by cases h;exact .ret .none
 | e :: l,_,x,x',β,i,hx,h=>by
  cases h with
  | cons he ht =>
   unfold Instr.findAsking
   refine .bnd (qbk S.toAlike2 n _ t hf hx he.key) fun β1 b b' e1 hb=>?_
   subst hb
   split
   ·exact .ret (.some i (he.val.mono e1))
   ·exact qd9 hf (i + 1) (hx.mono e1) (ht.mono e1)
include S in
theorem qda {n:Nat} {t:TypeId} (hf:qb5 Pa n t = true) {x x':Value} {l l':List MapEntry} (hx:VR β x x') (hl:LE β l l'):SR Pa Pr (fun β=>FR β) β (Instr.findKey t x l) (Instr.findKey t x' l'):=by
 unfold Instr.findKey
 refine .bnd (xu S.toAlike t) fun β1 u u' e h1=>?_
 obtain ⟨rfl,h1⟩:=h1
 rcases qgo u' (hx.mono e) 0 (hl.mono e) with ⟨e1,e2⟩ | ⟨r,r',e1,e2,hr⟩
 ·rw [e1,e2];exact qd9 S hf 0 (hx.mono e) (hl.mono e)
 ·rw [e1,e2];exact .ret hr
def mapOk (P:Program) (t:TypeId):Bool:=match P.underlying t with
 | some (.map k e)=>qb5 P 20 k && ni P e
 | _=>true
include S in
theorem qs0 {t:TypeId} (hm:mapOk Pa t = true) {x x' y y':Value} (hx:VR β x x') (hy:VR β y y') (ok:Bool):SR Pa Pr (fun β=>VR β) β (Instr.lookup t x y ok) (Instr.lookup t x' y' ok):=by
 unfold Instr.lookup
 refine .bnd (xu S.toAlike t) fun β1 u u' e h1=>?_
 obtain ⟨rfl,h1⟩:=h1
 unfold mapOk at hm
 rw [h1] at hm
 cases u' <;> try exact .dead (qd _)
 rename_i k el
 simp only [Bool.and_eq_true] at hm
 obtain ⟨hf,hz⟩:=hm
 replace hx:=hx.mono e;replace hy:=hy.mono e
 have out:∀ {β:Bl} {v v':Value} (b:Bool),VR β v v'->SR Pa Pr (fun β=>VR β) β (pure (if ok = true then .tuple #[v,.bool b] else v)) (pure (if ok = true then .tuple #[v',.bool b] else v')):=by
  intro β v v' b h
  cases ok with
  | true=>exact .ret ((AR.nil.push h).push (.bool _)).tuple
  | false=>exact .ret h
 cases hx with
 | map0 =>
  refine .yw ?_
  refine .bnd (uy S _ _ _ _ _ hf hy) fun β2 _ _ e2 _=>?_
  refine .bnd (qda S hf (hy.mono e2) .nil) fun β3 r r' e3 hr=>?_
  cases hr with
  | some i h=>exact .yw (out _ h)
  | none=>exact .bnd (tu S.toAlike hz) fun β1 z z' e hzz=>by obtain ⟨rfl,hzz⟩:=hzz;exact .yw (out _ (qcd 20 _ hzz))
 | map hb =>
  refine .bnd (ny hb) fun β1' o o' e1' ho=>?_
  replace hy:=hy.mono e1'
  cases ho with
  | map t hs h =>
   have L:=LE.arr hs h
   refine .yw ?_
   refine .bnd (uy S _ _ _ _ _ hf hy) fun β2 _ _ e2 _=>?_
   refine .bnd (qda S hf (hy.mono e2) (L.mono e2)) fun β3 r r' e3 hr=>?_
   cases hr with
   | some i h=>exact .yw (out _ h)
   | none=>exact .bnd (tu S.toAlike hz) fun β1 z z' e hzz=>by obtain ⟨rfl,hzz⟩:=hzz;exact .yw (out _ (qcd 20 _ hzz))
  | _=>exact .dead ((qd _).bnd _)
 | _=>exact .dead (Dead.bnd (qd (α:=Array MapEntry) "Lookup: map expected") _)
theorem qoj {a b:ByteArray} (h:(a == b) = true):a = b:=by
 cases a;cases b
 congr 1
 have:(_ == _) = true:=h
 exact eq_of_beq h
theorem qgp:∀ (n:Nat) {x y:Value},Instr.sameBits n x y = true->x = y:=by
 intro n
 induction n with
 | zero =>
  intro x y h
  cases x <;> cases y <;> simp only [Instr.sameBits,Bool.and_eq_true,beq_iff_eq,Bool.false_eq_true] at h ⊢ <;> try simp_all
  exact qoj h
 | succ n ih =>
  intro x y h
  cases x <;> cases y <;> simp only [Instr.sameBits,Bool.and_eq_true,beq_iff_eq,Bool.false_eq_true] at h ⊢ <;> try simp_all
  ·exact qoj h
  ·exact ih h.2
  ·rename_i a b
   obtain ⟨h1,h2⟩:=h
   refine Array.ext h1 fun i hi hj=>ih (h2 a[i] b[i] ?_)
   rw [List.mem_iff_getElem]
   exact ⟨i,by simp [h1];omega,by simp⟩
theorem q2j {RB:Bl->γ->γ'->Prop} {old new old' new':Value} (h1:VR β old old') (h2:VR β new new') {c:Value->Sem γ} {c':Value->Sem γ'}
  (hc:∀ k k',VR β k k'->SRf Pa Pr true RB β (c k) (c' k')) (nd:∀ k',yc (c' k')):SRf Pa Pr true RB β (Instr.keyThatStays old new >>= c) (Instr.keyThatStays old' new' >>= c'):=by
 unfold Instr.keyThatStays
 by_cases e1:Instr.sameBits 10000 old new = true
 ·rw [if_pos e1]
  obtain rfl:=qgp _ e1
  by_cases e2:Instr.sameBits 10000 old' new' = true
  ·rw [if_pos e2];exact .yw (hc _ _ h2)
  ·rw [if_neg e2]
   refine .chooseR rfl (fun n=>?_) fun n=>?_
   ·exact nd _
   ·show SRf Pa Pr true RB β (c old) (c' (if n = 0 then new' else old'))
    split
    ·exact hc _ _ h2
    ·exact hc _ _ h1
 ·rw [if_neg e1]
  by_cases e2:Instr.sameBits 10000 old' new' = true
  ·rw [if_pos e2]
   obtain rfl:=qgp _ e2
   refine .chooseL rfl (nd _) fun n=>?_
   show SRf Pa Pr true RB β (c (if n = 0 then new else old)) (c' old')
   split
   ·exact hc _ _ h2
   ·exact hc _ _ h1
  ·rw [if_neg e2]
   refine .choose fun n=>?_
   show SRf Pa Pr true RB β (c (if n = 0 then new else old)) (c' (if n = 0 then new' else old'))
   split
   ·exact hc _ _ h2
   ·exact hc _ _ h1
include S in
theorem qwc (t:TypeId) {x x':Value} (hx:VR β x x'):SR Pa Pr (fun β=>VR β) β (Instr.range t x) (Instr.range t x'):=by
 unfold Instr.range
 refine .bnd (xu S.toAlike t) fun β1 u u' e h1=>?_
 obtain ⟨rfl,h1⟩:=h1
 replace hx:=hx.mono e
 have mk:∀ {β:Bl} {o o':Obj},OR β .iter o o'->SR Pa Pr (fun β=>VR β) β (newObj o >>= fun r=>pure (.pointer (some ⟨r,0,none⟩))) (newObj o' >>= fun r=>pure (.pointer (some ⟨r,0,none⟩))):=fun h =>
  .new h (by decide) fun β' a b e hb=>.pure (.ptr 0 none hb)
 cases u' <;> try exact .dead (Dead.bnd (qd (α:=Obj) "Range: string or map expected") _)
 ·cases hx with
  | string s=>exact mk (.stringIter _ _)
  | _=>exact .dead (Dead.bnd (qd (α:=Obj) "Range: string or map expected") _)
 ·cases hx with
  | map0=>exact mk (.mapIter0 _ _ _)
  | map hb =>
   refine .bnd (ny hb) fun β1' o o' e1' ho=>?_
   cases ho with
   | map t hs h=>exact mk (.mapIter _ _ _ (e1' _ _ _ hb))
   | _=>exact .dead ((qd _).bnd _)
  | _=>exact .dead (Dead.bnd (qd (α:=Obj) "Range: string or map expected") _)
theorem LE.filter {p:MapEntry->Bool} (hp:∀ e e',ER β e e'->p e' = p e) {l l':List MapEntry} (h:LE β l l'):LE β (l.filter p) (l'.filter p):=by
 induction h with
 | nil=>exact .nil
 | @cons e e' l l' he _ ih =>
  simp only [List.filter_cons,hp e e' he]
  split
  ·exact .cons he ih
  ·exact ih
theorem LE.app {a a' b b':List MapEntry} (h:LE β a a') (g:LE β b b'):LE β (a ++ b) (a' ++ b'):=by
 induction h with
 | nil=>exact g
 | cons h _ ih=>exact .cons h ih
theorem LE.all {p:MapEntry->Bool} (hp:∀ e e',ER β e e'->p e' = p e) {l l':List MapEntry} (h:LE β l l'):l'.all p = l.all p:=by
 induction h with
 | nil=>rfl
 | @cons e e' l l' he _ ih=>simp only [List.all_cons,hp e e' he,ih]
theorem LE.modify {l l':List MapEntry} (h:LE β l l') (i:Nat) {f g:MapEntry->MapEntry} (hf:∀ e e',ER β e e'->ER β (f e) (g e')):LE β (l.modify i f) (l'.modify i g):=by
 induction h generalizing i with
 | nil=>cases i <;> exact .nil
 | cons he ht ih =>
  cases i with
  | zero=>exact .cons (hf _ _ he) ht
  | succ i=>exact .cons he (ih i)
theorem LE.erase {l l':List MapEntry} (h:LE β l l') (i:Nat):LE β (l.eraseIdx i) (l'.eraseIdx i):=by
 induction h generalizing i with
 | nil=>cases i <;> exact .nil
 | cons he ht ih =>
  cases i with
  | zero=>exact ht
  | succ i=>exact .cons he (ih i)
include S in
theorem qk2 {RB:Bl->γ->γ'->Prop} {t:TypeId} (hm:mapOk Pa t = true) {m m' k k' v v':Value} (h1:VR β m m') (h2:VR β k k') (h3:VR β v v') {c:γ} {c':γ'} (hc:∀ β',RB β' c c') :
  SRf Pa Pr true RB β (Instr.mapUpdate t m k v >>= fun _=>pure c) (Instr.mapUpdate t m' k' v' >>= fun _=>pure c'):=by
 unfold Instr.mapUpdate
 simp only [bind_assoc]
 refine .bnd (xu S.toAlike t) fun β1 u u' e hu=>?_
 obtain ⟨rfl,hu⟩:=hu
 unfold mapOk at hm
 rw [hu] at hm
 cases u' <;> try exact .dead ((qd _).bnd _)
 rename_i kt el
 simp only [Bool.and_eq_true] at hm
 obtain ⟨hf,hz⟩:=hm
 replace h1:=h1.mono e;replace h2:=h2.mono e;replace h3:=h3.mono e
 cases h1 with
 | map0=>exact .dead (Dead.bnd (qy rfl) _)
 | map hb =>
  dsimp only
  simp only [bind_assoc]
  refine .bnd (ny hb) fun β2 o o' e2 ho=>?_
  cases ho with
  | @map es es' t hs h =>
   have L:=LE.arr hs h
   dsimp only
   simp only [bind_assoc]
   replace h2:=h2.mono e2;replace h3:=h3.mono e2
   refine .bnd (uy S _ _ _ _ _ hf h2) fun β3 _ _ e3 _=>?_
   refine .bnd (qda S hf (h2.mono e3) (L.mono e3)) fun β4 r r' e4 hr=>?_
   have E:=(e2.trans e3).trans e4
   replace L:=(L.mono e3).mono e4
   replace h2:=(h2.mono e3).mono e4;replace h3:=(h3.mono e3).mono e4
   have B4:=E _ _ _ hb
   cases hr with
   | none =>
    exact .setObj B4 (.inl rfl) (LE.or (by simpa using L.snoc (e:={ key:=k,val:=v,born:=t }) (e':={ key:=k',val:=v',born:=t }) ⟨h2,h3,rfl⟩) _) (.pure (hc _))
   | some i hv =>
    dsimp only
    simp only [bind_assoc]
    refine q2j ?_ h2 (fun key key' hk=>?_) fun k'=>.setObj (.pure _)
    ·have hsz:es.size = es'.size:=by simpa using L.size
     cases hi:es[i]? with
     | none =>
      have hi':es'[i]? = none:=by rw [Array.getElem?_eq_none_iff] at hi ⊢;omega
      rw [hi'];exact h2
     | some q =>
      have hlt:i < es'.size:=by rw [<-hsz];exact (Array.getElem?_eq_some_iff.1 hi).1
      rw [Array.getElem?_eq_getElem hlt]
      exact (L.at_ i q es'[i] (by simpa using hi) (by simp [hlt])).key
    ·refine .setObj B4 (.inl rfl) (LE.or ?_ _) (.pure (hc _))
     rw [Array.toList_modify,Array.toList_modify]
     exact L.modify i fun e e' he=>⟨hk,h3,he.born⟩
  | _=>exact .dead (Dead.bnd (qd _) _)
 | _=>exact .dead (Dead.bnd (qd _) _)
include S in
theorem qs1 {t t2 ty:TypeId} (hm:mapOk Pa t = true) {m m' k k':Value} (h1:VR β m m') (h2:VR β k k'):SR Pa Pr (fun β=>VR β) β (Builtin.delete_ #[t,t2] ty #[m,k]) (Builtin.delete_ #[t,t2] ty #[m',k']):=by
 refine .bnd (xu S.toAlike t) fun β1 u u' e hu=>?_
 obtain ⟨rfl,hu⟩:=hu
 unfold mapOk at hm
 rw [hu] at hm
 cases u' <;> try exact .dead (qd _)
 rename_i kt el
 simp only [Bool.and_eq_true] at hm
 obtain ⟨hf,hz⟩:=hm
 replace h1:=h1.mono e;replace h2:=h2.mono e
 cases h1 with
 | map0 =>
  exact .bnd (uy S _ _ _ _ _ hf h2) fun _ _ _ _ _=>.ret (AR.nil).tuple
 | map hb =>
  refine .bnd (ny hb) fun β2 o o' e2 ho=>?_
  cases ho with
  | map t hs h =>
   have L:=LE.arr hs h
   replace h2:=h2.mono e2
   refine .bnd (uy S _ _ _ _ _ hf h2) fun β3 _ _ e3 _=>?_
   refine .bnd (qda S hf (h2.mono e3) (L.mono e3)) fun β4 r r' e4 hr=>?_
   have B4:=((e2.trans e3).trans e4) _ _ _ hb
   replace L:=(L.mono e3).mono e4
   cases hr with
   | none=>exact .setObj B4 (.inl rfl) (L.or _) (.pure (AR.nil).tuple)
   | some i hv =>
    refine .setObj B4 (.inl rfl) (LE.or ?_ _) (.pure (AR.nil).tuple)
    rw [Array.toList_eraseIdxIfInBounds,Array.toList_eraseIdxIfInBounds]
    exact L.erase i
  | _=>exact .dead (Dead.bnd (qd _) _)
 | _=>exact .dead (Dead.bnd (qd _) _)
end
end Go.Proofs.Ytcdclihinmdgiaa.sq
namespace Go.Proofs.Ytcdclihinmdgiaa.sq
open Go
set_option linter.unusedVariables false
variable [Cal]
section
variable {Pa Pr:Program} (S:Alike3 Pa Pr) {β:Bl} {α α' γ γ':Type} {RA:Bl->α->α'->Prop}
inductive CR (β:Bl):List (Option MapEntry)->List (Option MapEntry)->Prop
 | nil:CR β [] []
 | over {l l':List (Option MapEntry)} (t:CR β l l'):CR β (none :: l) (none :: l')
 | ent {e e':MapEntry} {l l':List (Option MapEntry)} (h:ER β e e') (t:CR β l l'):CR β (some e :: l) (some e' :: l')
theorem CR.of {l l':List MapEntry} (h:LE β l l'):CR β (l.map some) (l'.map some):=by
 induction h with
 | nil=>exact .nil
 | cons h _ ih=>exact .ent h ih
theorem CR.size {l l':List (Option MapEntry)} (h:CR β l l'):l.length = l'.length:=by
 induction h with
 | nil=>rfl
 | over _ ih=>simp [ih]
 | ent _ _ ih=>simp [ih]
theorem CR.at_ {l l':List (Option MapEntry)} (h:CR β l l'):∀ i:Nat,(l[i]? = none/\l'[i]? = none)\/(l[i]? = some none/\l'[i]? = some none)\/∃ e e',l[i]? = some (some e)/\l'[i]? = some (some e')/\ER β e e':=by
 induction h with
 | nil=>intro i;simp
 | over _ ih =>
  intro i
  cases i with
  | zero=>exact .inr (.inl ⟨rfl,rfl⟩)
  | succ i=>simpa using ih i
 | ent h _ ih =>
  intro i
  cases i with
  | zero=>exact .inr (.inr ⟨_,_,rfl,rfl,h⟩)
  | succ i=>simpa using ih i
theorem CR.app {a a' b b':List (Option MapEntry)} (h:CR β a a') (g:CR β b b'):CR β (a ++ b) (a' ++ b'):=by
 induction h with
 | nil=>exact g
 | over _ ih=>exact .over ih
 | ent h _ ih=>exact .ent h ih
theorem qs2 {v v':Value} (h:VR β v v'):(∃ a b k s,v = .pointer (some ⟨a,0,s⟩)/\v' = .pointer (some ⟨b,0 + k.sh,s⟩)/\β a b k)\/∀ r s,v ≠ .pointer (some ⟨r,0,s⟩):=by
 cases h with
 | @ptr a b k o s h =>
  by_cases ho:o = 0
  ·subst ho;exact .inl ⟨a,b,k,s,rfl,rfl,h⟩
  ·exact .inr fun r s e=>ho (by cases e;rfl)
 | _=>exact .inr fun r s e=>by cases e
theorem qz7 (t t':TypeId) {v v':Value} (h:VR β v v') (b:Bool):SR Pa Pr (fun β=>VR β) β (Instr.next v b t) (Instr.next v' b t'):=by
 rcases qs2 h with ⟨x,y,k,s,rfl,rfl,hb⟩ | hn
 ·cases hk:k.qdi with
  | true=>exact .getBad hb hk
  | false =>
   rw [Kd.sh0 hk]
   unfold Instr.next
   dsimp only
   refine .bnd (ny hb) fun β1 o o' e1 ho=>?_
   have over:SR Pa Pr (fun β=>VR β) β1 (pure (.tuple #[.bool false])) (pure (.tuple #[.bool false])):=.ret ((AR.nil).push (.bool _)).tuple
   cases ho with
   | stringIter z pos =>
    cases b with
    | false=>exact .dead (qd _)
    | true =>
     dsimp only
     split
     ·exact .setObj (e1 _ _ _ hb) (.inr rfl) (.stringIter _ _) (.pure (((AR.nil.push (.bool _)).push (.int _ _)).push (.int _ _)).tuple)
     ·exact over
   | mapIter0 q seen st =>
    cases b with
    | false=>exact over
    | true=>exact .dead (qd _)
   | @mapIter m m' km q seen st hm =>
    cases b with
    | true=>exact .dead (qd _)
    | false =>
     dsimp only
     refine .bnd (ny hm) fun β2 p p' e2 hp=>?_
     cases hp with
     | @map es es' clock hs h =>
      have L:=LE.arr hs h
      dsimp only
      have hemp:es'.isEmpty = es.isEmpty:=by simp only [Array.isEmpty,hs]
      have hall:∀ n:Nat,es'.all (fun x=>decide (x.born>=n)) = es.all (fun x=>decide (x.born>=n)):=fun n=>by
       rw [<-Array.all_toList,<-Array.all_toList]
       exact L.all fun e e' he=>by rw [he.born]
      rw [hemp,hall]
      have left:=L.filter (p:=fun e=>!seen.contains e.born) fun e e' he=>by rw [he.born]
      have old:=left.filter (p:=fun x=>decide (x.born < q)) fun e e' he=>by rw [he.born]
      have nw:=left.filter (p:=fun x=>decide (x.born>=q)) fun e e' he=>by rw [he.born]
      split
      ·exact .dead (Dead.bnd (zw _ rfl) _)
      ·have hop:(Array.filter (fun x=>decide (x.born < q)) (Array.filter (fun e=>!seen.contains e.born) es')).isEmpty = (Array.filter (fun x=>decide (x.born < q)) (Array.filter (fun e=>!seen.contains e.born) es)).isEmpty:=by
        have:=old.size
        rw [<-Array.toList_filter,<-Array.toList_filter,<-Array.toList_filter,<-Array.toList_filter] at this
        simp only [Array.isEmpty]
        simpa using congrArg (fun n=>decide (n = 0)) this.symm
       rw [hop]
       have cand:CR β2 (((if (Array.filter (fun x=>decide (x.born < q)) (Array.filter (fun e=>!seen.contains e.born) es)).isEmpty = true then #[none] else #[]) ++ Array.map some (Array.filter (fun x=>decide (x.born < q)) (Array.filter (fun e=>!seen.contains e.born) es) ++ Array.filter (fun x=>decide (x.born>=q)) (Array.filter (fun e=>!seen.contains e.born) es))):Array (Option MapEntry)).toList (((if (Array.filter (fun x=>decide (x.born < q)) (Array.filter (fun e=>!seen.contains e.born) es)).isEmpty = true then #[none] else #[]) ++ Array.map some (Array.filter (fun x=>decide (x.born < q)) (Array.filter (fun e=>!seen.contains e.born) es') ++ Array.filter (fun x=>decide (x.born>=q)) (Array.filter (fun e=>!seen.contains e.born) es'))):Array (Option MapEntry)).toList:=by
        rw [Array.toList_append,Array.toList_append]
        refine CR.app ?_ ?_
        ·split
         ·exact .over .nil
         ·exact .nil
        ·rw [Array.toList_map,Array.toList_map,Array.toList_append,Array.toList_append]
         refine CR.of (LE.app ?_ ?_)
         ·simpa using old
         ·simpa using nw
       generalize (((if (Array.filter (fun x=>decide (x.born < q)) (Array.filter (fun e=>!seen.contains e.born) es)).isEmpty = true then #[none] else #[]) ++ Array.map some (Array.filter (fun x=>decide (x.born < q)) (Array.filter (fun e=>!seen.contains e.born) es) ++ Array.filter (fun x=>decide (x.born>=q)) (Array.filter (fun e=>!seen.contains e.born) es))):Array (Option MapEntry)) = cs at *
       generalize (((if (Array.filter (fun x=>decide (x.born < q)) (Array.filter (fun e=>!seen.contains e.born) es)).isEmpty = true then #[none] else #[]) ++ Array.map some (Array.filter (fun x=>decide (x.born < q)) (Array.filter (fun e=>!seen.contains e.born) es') ++ Array.filter (fun x=>decide (x.born>=q)) (Array.filter (fun e=>!seen.contains e.born) es'))):Array (Option MapEntry)) = cs' at *
       have hsz:cs'.size = cs.size:=by simpa using cand.size.symm
       rw [hsz]
       refine .bnd (RA:=fun _ a b=>b = a) (.choose fun n=>.pure rfl) fun β3 n n' e3 hn=>?_
       subst hn
       have:=cand.at_ n'
       rw [Array.getElem?_toList,Array.getElem?_toList] at this
       rcases this with ⟨c1,c2⟩ | ⟨c1,c2⟩ | ⟨y1,y2,c1,c2,hy⟩
       ·rw [c1,c2];exact .dead (qd _)
       ·rw [c1,c2];exact .ret ((AR.nil).push (.bool _)).tuple
       ·rw [c1,c2]
        have hy3:=hy.mono e3
        dsimp only
        rw [hy.born]
        exact .setObj (e3 _ _ _ (e2 _ _ _ (e1 _ _ _ hb))) (.inr rfl) (.mapIter _ _ _ (e3 _ _ _ (e2 _ _ _ hm))) (.pure (((AR.nil.push (.bool _)).push hy3.key).push hy3.val).tuple)
     | _=>exact .dead (qd _)
   | _=>cases b <;> exact .dead (qd _)
 ·refine .dead ?_
  unfold Instr.next
  dsimp only
  split
  ·rename_i r s
   exact absurd rfl (hn r s)
  ·exact qd _
theorem qwd {v v':Value} (h:VR β v v'):SR Pa Pr (fun β=>VR β) β (Instr.entry v) (Instr.entry v'):=by
 rcases qs2 h with ⟨x,y,k,s,rfl,rfl,hb⟩ | hn
 ·cases hk:k.qdi with
  | true=>exact .getBad hb hk
  | false =>
   rw [Kd.sh0 hk]
   unfold Instr.entry
   dsimp only
   refine .bnd (ny hb) fun β1 o o' e1 ho=>?_
   cases ho with
   | @mapIter m m' km q seen st hm =>
    dsimp only
    cases seen.back? with
    | none=>exact .dead (qd _)
    | some stamp =>
     dsimp only
     refine .bnd (ny hm) fun β2 p p' e2 hp=>?_
     cases hp with
     | @map es es' clock hs h =>
      have L:=LE.arr hs h
      dsimp only
      have fd:∀ {l l':List MapEntry},LE β2 l l'->(l.find? (fun e=>e.born == stamp) = none/\l'.find? (fun e=>e.born == stamp) = none)\/∃ e e',l.find? (fun e=>e.born == stamp) = some e/\l'.find? (fun e=>e.born == stamp) = some e'/\ER β2 e e':=by
       intro l l' h
       induction h with
       | nil=>exact .inl ⟨rfl,rfl⟩
       | @cons e e' l l' he _ ih =>
        simp only [List.find?_cons,he.born]
        cases e'.born == stamp with
        | true=>exact .inr ⟨_,_,rfl,rfl,he⟩
        | false=>exact ih
      have:=fd L
      rw [Array.find?_toList,Array.find?_toList] at this
      split
      ·exact .dead (Dead.bnd (zw _ rfl) _)
      ·rcases this with ⟨c1,c2⟩ | ⟨y1,y2,c1,c2,hy⟩
       ·rw [c1,c2];exact .dead (zw _ rfl)
       ·rw [c1,c2];exact .ret ((AR.nil.push hy.key).push hy.val).tuple
     | _=>exact .dead (qd _)
   | _=>exact .dead (qd _)
 ·refine .dead ?_
  unfold Instr.entry
  dsimp only
  split
  ·rename_i r s
   exact absurd rfl (hn r s)
  ·exact qd _
theorem qe8:∀ (n:Nat) {β:Bl} {a a':Addr} (acc:ByteArray),AdR β a a'->SR Pa Pr (fun _ x x'=>x' = x) β (Extern.Bytes.loadBytes a n acc) (Extern.Bytes.loadBytes a' n acc)
 | 0,β,a,a',acc,h=>.ret rfl
 | n + 1,β,a,a',acc,h=>by
  unfold Extern.Bytes.loadBytes
  refine .bnd (qi1 h) fun β1 v v' e hv=>?_
  cases hv with
  | int k m =>
   cases k <;> first | exact qe8 n _ ((h.mono e).add 1) | exact .dead (qd _)
  | _=>exact .dead (qd _)
theorem qp4 {v v':Value} (h:VR β v v'):SR Pa Pr (fun _ x x'=>x' = x) β (Extern.Bytes.bytesOf v) (Extern.Bytes.bytesOf v'):=by
 cases h with
 | string s=>exact .ret rfl
 | slice0=>exact .ret rfl
 | slice o s n c hb=>exact qe8 n _ ⟨_,hb,rfl,rfl⟩
 | _=>exact .dead (qd _)
theorem qs3 {v v':Value} (h:VR β v v'):SR Pa Pr (fun _ x x'=>x' = x) β (Extern.Bytes.asByte v) (Extern.Bytes.asByte v'):=by
 cases h with
 | int k n=>cases k <;> first | exact .ret rfl | exact .dead (qd _)
 | _=>exact .dead (qd _)
theorem qk3 {v v' x x':Value} (h:VR β v v') (hx:VR β x x'):SR Pa Pr (fun β=>VR β) β (Extern.BytealgIndexByte.indexByte #[v,x]) (Extern.BytealgIndexByte.indexByte #[v',x']):=by
 refine .bnd (qp4 h) fun β1 b b' e1 hb=>?_
 subst hb
 refine .bnd (qs3 (hx.mono e1)) fun β2 c c' e2 hc=>?_
 subst hc
 split <;> exact .ret (.int _ _)
end
end Go.Proofs.Ytcdclihinmdgiaa.sq
namespace Go.Proofs.Ytcdclihinmdgiaa.sq
open Go
set_option linter.unusedVariables false
variable [Cal]
section
variable {Pa Pr:Program} (S:Alike3 Pa Pr) {β:Bl} {α α' γ γ':Type} {RA:Bl->α->α'->Prop}
include S in
theorem q2k {t ty:TypeId} (hc:qp3 Pa t = true) {x x':Value} (hx:VR β x x'):SR Pa Pr (fun β=>VR β) β (Builtin.cap_ #[t] ty #[x]) (Builtin.cap_ #[t] ty #[x']):=by
 refine .bnd (xu S.toAlike t) fun β1 d d' e h1=>?_
 obtain ⟨rfl,h1⟩:=h1
 unfold qp3 at hc
 rw [h1] at hc
 replace hx:=hx.mono e
 cases d' with
 | chan=>cases hc
 | array n el=>exact .ret (.int _ _)
 | pointer arr =>
  refine .bnd (xu S.toAlike arr) fun β2 d d' e2 h2=>?_
  obtain ⟨rfl,h2⟩:=h2
  cases d' <;> try exact .dead (qd _)
  exact .ret (.int _ _)
 | slice el =>
  cases hx with
  | slice0 n c=>exact .ret (.int _ _)
  | slice o s n c hb=>exact .ret (.int _ _)
  | _=>exact .dead (qd _)
 | _=>exact .dead (qd _)
def qmm (P:Program) (t:TypeId):Bool:=match P.underlying t with
 | some (.slice e)=>ni P e
 | _=>false
include S in
theorem qwe {t ty:TypeId} (hc:qmm Pa t = true) {x x':Value} (hx:VR β x x'):SR Pa Pr (fun β=>VR β) β (Builtin.clear_ #[t] ty #[x]) (Builtin.clear_ #[t] ty #[x']):=by
 refine .bnd (xu S.toAlike t) fun β1 d d' e h1=>?_
 obtain ⟨rfl,h1⟩:=h1
 unfold qmm at hc
 rw [h1] at hc
 replace hx:=hx.mono e
 cases d' <;> try (cases hc;done)
 rename_i el
 simp only at hc
 cases hx with
 | slice0 n c=>exact .ret (AR.nil).tuple
 | slice o s n c hb =>
  cases n with
  | zero=>exact .ret (AR.nil).tuple
  | succ n =>
   refine .bnd (tu S.toAlike hc) fun β2 z z' e2 hz=>?_
   obtain ⟨rfl,hz⟩:=hz
   exact .bnd (yt _ _ 0 ⟨_,e2 _ _ _ hb,rfl,rfl⟩ (qaf (ug hz) _).toList) fun _ _ _ _ _=>.ret (AR.nil).tuple
 | map0=>exact .ret (AR.nil).tuple
 | map hb =>
  refine .bnd (ny hb) fun β2 o o' e2 ho=>?_
  cases ho with
  | map t hs h=>exact .setObj (e2 _ _ _ hb) (.inl rfl) (.map _ rfl fun i e e' q=>by simp at q) (.ret (AR.nil).tuple)
  | _=>exact .dead ((qd _).bnd _)
 | _=>exact .dead ((qd _).bnd _)
theorem qaz {c:Prop} [Decidable c] {s1 s2:Sem α} {s1' s2':Sem α'} (h1:c->SR Pa Pr RA β s1 s1') (h2:¬ c->SR Pa Pr RA β s2 s2'):SR Pa Pr RA β (if c then s1 else s2) (if c then s1' else s2'):=by
 by_cases h:c
 ·rw [if_pos h,if_pos h];exact h1 h
 ·rw [if_neg h,if_neg h];exact h2 h
def qi5 (P:Program) (t t2:TypeId):Bool:=qdj P t && (match P.underlying t2 with
 | some (.int _)=>true
 | _=>false)
include S in
theorem qmn {t t2 ty:TypeId} (hz:qi5 Pa t t2 = true) {x x' y y':Value} (hx:VR β x x') (hy:VR β y y'):SR Pa Pr (fun β=>VR β) β (Builtin.append_ #[t,t2] ty #[x,y]) (Builtin.append_ #[t,t2] ty #[x',y']):=by
 unfold qi5 at hz
 rw [Bool.and_eq_true] at hz
 obtain ⟨hz,ht2⟩:=hz
 refine .bnd (xu S.toAlike t) fun β1 d d' e h1=>?_
 obtain ⟨rfl,h1⟩:=h1
 unfold qdj at hz
 rw [h1] at hz
 cases d' <;> try exact .dead (qd _)
 rename_i el
 try simp only at hz
 replace hx:=hx.mono e;replace hy:=hy.mono e
 have hx0:=hx
 cases hx with
 | slice0 sLen sCap =>
  dsimp only
  refine .bnd (jm S.toAlike el) fun β2 q q' e2 hq=>?_
  obtain ⟨rfl,hq⟩:=hq
  refine .bnd (xu S.toAlike t2) fun β3 u u' e3 hu=>?_
  obtain ⟨rfl,hu⟩:=hu
  rw [hu] at ht2
  cases u' <;> try (cases ht2;done)
  refine .bnd (RA:=fun _ b b'=>b = true/\b' = true) (.ret ⟨rfl,rfl⟩) fun β3' b b' e3' hb'=>?_
  obtain ⟨rfl,rfl⟩:=hb'
  rw [if_pos (rfl:true = true),if_pos (rfl:true = true)]
  have hy3:=((hy.mono e2).mono e3).mono e3'
  have HX:=((hx0.mono e2).mono e3).mono e3'
  refine .bnd (qd7 hy3) fun β4 m m' e4 hm=>?_
  subst hm
  refine qaz (fun _=>.dead ((qy rfl).bnd _)) fun _=>?_
  refine .bnd (vw S.toAlike el) fun β5 i i' e5 hi=>?_
  obtain ⟨rfl,hi⟩:=hi
  refine qaz (fun _=>?_) fun _=>?_
  ·exact .dead (Dead.bnd (qb4 fun n=>(qy (e:=.error _) rfl)) _)
  refine .yw ?_
  have ap:∀ {β:Bl} (n:Nat) (x x':Value),SR Pa Pr (fun β=>AR β) β (if (!true) = true then Builtin.firstCells q' n x else if n * q' = 0 then pure #[] else (do let z <-zeroValue el;pure (Builtin.zeroCells z.cells n):Sem (Array Value))) (if (!true) = true then Builtin.firstCells q' n x' else if n * q' = 0 then pure #[] else (do let z <-zeroValue el;pure (Builtin.zeroCells z.cells n):Sem (Array Value))):=by
   intro β n x x'
   rw [if_neg (show ¬ (!true) = true by decide),if_neg (show ¬ (!true) = true by decide)]
   split
   ·exact .ret .nil
   ·refine .bnd (tu S.toAlike hz) fun β1 z z' e1 hz'=>?_
    obtain ⟨rfl,hz'⟩:=hz'
    exact .ret (qaf (ug hz') _)
  refine qaz (fun _=>?_) fun _=>?_
  ·refine .bnd (ap _ _ _) fun β6 cs cs' e6 hcs=>?_
   exact .ret (.slice0 _ _)
  ·refine .bnd (vw S.toAlike el) fun β6 i2 i2' e6 hi2=>?_
   obtain ⟨rfl,hi2⟩:=hi2
   refine qaz (fun _=>?_) fun _=>?_
   ·exact .dead ((qy rfl).bnd _)
   ·refine .bnd (vw S.toAlike el) fun β7 i3 i3' e7 hi3=>?_
    obtain ⟨rfl,hi3⟩:=hi3
    refine qaz (fun _=>?_) fun _=>?_
    ·refine .dead (Dead.bnd ?_ _)
     rw [if_pos (rfl:true = true)]
     exact qy rfl
    ·refine .bnd (RA:=fun _ a b=>b = a) (.choose fun n=>.pure rfl) fun β8 newCap nc' e8 hnc=>?_
     subst hnc
     refine .bnd (vw S.toAlike el) fun β9 i4 i4' e9 hi4=>?_
     obtain ⟨rfl,hi4⟩:=hi4
     refine .bnd (qbm _) fun β10 _ _ e10 _=>?_
     have E:=((((((e4.trans e5).trans e6).trans e7).trans e8).trans e9).trans e10)
     refine .bnd (jd q' sLen (HX.mono E)) fun β11 old old' e11 hold=>?_
     refine .bnd (ap _ _ _) fun β12 nw nw' e12 hnw=>?_
     refine .bnd (tu S.toAlike hz) fun β13 z z' e13 hzz=>?_
     obtain ⟨rfl,hzz⟩:=hzz
     refine .bnd (qai el ((((hold.mono e12).mono e13).app (hnw.mono e13)).app (qaf (ug hzz) _))) fun β14 a a' e14 ha=>?_
     exact .ret (ha.slice _ _)
 | slice o s sLen sCap hb =>
  dsimp only
  refine .bnd (jm S.toAlike el) fun β2 q q' e2 hq=>?_
  obtain ⟨rfl,hq⟩:=hq
  refine .bnd (xu S.toAlike t2) fun β3 u u' e3 hu=>?_
  obtain ⟨rfl,hu⟩:=hu
  rw [hu] at ht2
  cases u' <;> try (cases ht2;done)
  refine .bnd (RA:=fun _ b b'=>b = true/\b' = true) (.ret ⟨rfl,rfl⟩) fun β3' b b' e3' hb'=>?_
  obtain ⟨rfl,rfl⟩:=hb'
  rw [if_pos (rfl:true = true),if_pos (rfl:true = true)]
  have hy3:=((hy.mono e2).mono e3).mono e3'
  have HX:=((hx0.mono e2).mono e3).mono e3'
  refine .bnd (qd7 hy3) fun β4 m m' e4 hm=>?_
  subst hm
  refine qaz (fun _=>.dead ((qy rfl).bnd _)) fun _=>?_
  refine .bnd (vw S.toAlike el) fun β5 i i' e5 hi=>?_
  obtain ⟨rfl,hi⟩:=hi
  refine qaz (fun _=>?_) fun _=>?_
  ·exact .dead (Dead.bnd (qb4 fun n=>(qy (e:=.error _) rfl)) _)
  refine .yw ?_
  have ap:∀ {β:Bl} (n:Nat) (x x':Value),SR Pa Pr (fun β=>AR β) β (if (!true) = true then Builtin.firstCells q' n x else if n * q' = 0 then pure #[] else (do let z <-zeroValue el;pure (Builtin.zeroCells z.cells n):Sem (Array Value))) (if (!true) = true then Builtin.firstCells q' n x' else if n * q' = 0 then pure #[] else (do let z <-zeroValue el;pure (Builtin.zeroCells z.cells n):Sem (Array Value))):=by
   intro β n x x'
   rw [if_neg (show ¬ (!true) = true by decide),if_neg (show ¬ (!true) = true by decide)]
   split
   ·exact .ret .nil
   ·refine .bnd (tu S.toAlike hz) fun β1 z z' e1 hz'=>?_
    obtain ⟨rfl,hz'⟩:=hz'
    exact .ret (qaf (ug hz') _)
  have A:AdR β5 ⟨_,o,s⟩ ⟨_,o + _,s⟩:=⟨_,e5 _ _ _ (e4 _ _ _ (e3' _ _ _ (e3 _ _ _ (e2 _ _ _ hb)))),rfl,rfl⟩
  refine qaz (fun _=>?_) fun _=>?_
  ·refine .bnd (ap _ _ _) fun β6 cs cs' e6 hcs=>?_
   refine .bnd (yt _ _ 0 ((A.mono e6).add _) hcs.toList) fun β7 _ _ e7 _=>?_
   exact .ret (((A.mono e6).mono e7).slice _ _)
  ·refine .bnd (vw S.toAlike el) fun β6 i2 i2' e6 hi2=>?_
   obtain ⟨rfl,hi2⟩:=hi2
   refine qaz (fun _=>?_) fun _=>?_
   ·exact .dead ((qy rfl).bnd _)
   ·refine .bnd (vw S.toAlike el) fun β7 i3 i3' e7 hi3=>?_
    obtain ⟨rfl,hi3⟩:=hi3
    refine qaz (fun _=>?_) fun _=>?_
    ·refine .dead (Dead.bnd ?_ _)
     rw [if_pos (rfl:true = true)]
     exact qy rfl
    ·refine .bnd (RA:=fun _ a b=>b = a) (.choose fun n=>.pure rfl) fun β8 newCap nc' e8 hnc=>?_
     subst hnc
     refine .bnd (vw S.toAlike el) fun β9 i4 i4' e9 hi4=>?_
     obtain ⟨rfl,hi4⟩:=hi4
     refine .bnd (qbm _) fun β10 _ _ e10 _=>?_
     have E:=((((((e4.trans e5).trans e6).trans e7).trans e8).trans e9).trans e10)
     refine .bnd (jd q' sLen (HX.mono E)) fun β11 old old' e11 hold=>?_
     refine .bnd (ap _ _ _) fun β12 nw nw' e12 hnw=>?_
     refine .bnd (tu S.toAlike hz) fun β13 z z' e13 hzz=>?_
     obtain ⟨rfl,hzz⟩:=hzz
     refine .bnd (qai el ((((hold.mono e12).mono e13).app (hnw.mono e13)).app (qaf (ug hzz) _))) fun β14 a a' e14 ha=>?_
     exact .ret (ha.slice _ _)
 | _=>exact .dead (qd _)
def q3b (P:Program) (t:TypeId):Bool:=match P.underlying t with
 | some (.slice _)=>true
 | _=>false
include S in
theorem qe9 (d:Nat) {t:TypeId} (hp:q3b Pa t = true) {x x':Value} (hx:VR β x x'):SR Pa Pr (fun _ b b'=>b' = b) β (Op.equalIn d t x (.slice none 0 0)) (Op.equalIn d t x' (.slice none 0 0)):=by
 cases d with
 | zero=>exact .dead (qm _ (fun b e=>by cases e))
 | succ d =>
  unfold Op.equalIn
  refine .bnd (xu S.toAlike t) fun β1 u u' e h1=>?_
  obtain ⟨rfl,h1⟩:=h1
  unfold q3b at hp
  rw [h1] at hp
  replace hx:=hx.mono e
  cases u' with
  | slice el=>cases hx <;> first | exact .ret rfl | exact .dead (qd _)
  | _=>cases hp
include S in
theorem qp5 {op:BinOp} (ho:op = .eql\/op = .neq) {t:TypeId} (hp:q3b Pa t = true) {x x':Value} (hx:VR β x x'):SR Pa Pr (fun β=>VR β) β (binOp op t x (.slice none 0 0)) (binOp op t x' (.slice none 0 0)):=by
 rcases ho with rfl | rfl
 ·have ge:SR Pa Pr (fun β=>VR β) β (do pure (.bool (<-Op.equal t x (.slice none 0 0))):Sem Value) (do pure (.bool (<-Op.equal t x' (.slice none 0 0)))) :=
   .bnd (qe9 S _ hp hx) fun β1 b b' e hb=>by subst hb;exact .ret (.bool _)
  cases hx <;> exact ge
 ·have ge:SR Pa Pr (fun β=>VR β) β (do pure (.bool (!(<-Op.equal t x (.slice none 0 0)))):Sem Value) (do pure (.bool (!(<-Op.equal t x' (.slice none 0 0))))) :=
   .bnd (qe9 S _ hp hx) fun β1 b b' e hb=>by subst hb;exact .ret (.bool _)
  cases hx <;> exact ge
def NdR (β:Bl) (a a':Addr):Prop:=∃ k,k.qdi = false/\β a.block a'.block k/\a'.off = a.off/\a'.spot = a.spot
theorem NdR.mono {β β':Bl} (hb:Ext β β') {a a':Addr} (h:NdR β a a'):NdR β' a a':=let ⟨k,h1,h2,h3⟩:=h;⟨k,h1,hb _ _ _ h2,h3⟩
theorem NdR.ad {β:Bl} {a a':Addr} (h:NdR β a a'):AdR β a a':=let ⟨k,h1,h2,h3,h4⟩:=h;⟨k,h2,by rw [Kd.sh0 h1];exact h3,h4⟩
theorem qea (hw:Cal.win = false) {a a':Addr} (h:AdR β a a'):SR Pa Pr (fun β x x'=>x' = x/\NdR β a a') β (frozen a) (frozen a'):=by
 obtain ⟨b,o,s⟩:=a;obtain ⟨b',o',s'⟩:=a'
 obtain ⟨k,h1,h2,h3⟩:=h
 simp only at h1 h2 h3
 subst h2;subst h3
 exact .frozen hw h1 fun x hx=>.pure ⟨rfl,k,hx,h1,by simp [Kd.sh0 hx],rfl⟩
theorem qfa (hw:Cal.win = false) {a a':Addr} (h:NdR β a a'):SR Pa Pr (fun _ x x'=>x' = x) β (stringish a) (stringish a'):=by
 unfold stringish
 refine .bnd (qea hw h.ad) fun β1 x x' e hx=>?_
 obtain ⟨rfl,k,h1,h2,h3,h4⟩:=hx
 refine qaz (fun _=>.ret rfl) fun _=>?_
 refine .bnd (qb6 h2) fun β2 s s' e2 hs=>?_
 rcases hs with ⟨_,rfl⟩ | ⟨z,_⟩
 ·cases s' with
  | none=>exact .ret rfl
  | some p =>
   obtain ⟨t,n⟩:=p
   refine (qea (a:=⟨a.block,n,none⟩) (a':=⟨a'.block,n,none⟩) hw ⟨k,e2 _ _ _ h2,by rw [Kd.sh0 h1];rfl,rfl⟩).mono fun β x x' h=>h.1
 ·rw [h1] at z;cases z
theorem qmo (hw:Cal.win = false) {a a' b b':Addr} (ha:NdR β a a') (hb:NdR β b b'):SR Pa Pr (fun _ x x'=>x' = x) β (mayBeOne a b) (mayBeOne a' b'):=by
 have nn:∀ {β:Bl} {a a':Addr},NdR β a a'->SR Pa Pr (fun _ x x'=>x' = x) β ((do pure ((<-shape a.block) matches some (_,0))):Sem Bool) (do pure ((<-shape a'.block) matches some (_,0))):=by
  intro β a a' h
  obtain ⟨k,h1,h2,_⟩:=h
  refine .bnd (qb6 h2) fun β2 s s' e2 hs=>?_
  rcases hs with ⟨_,rfl⟩ | ⟨z,_⟩
  ·exact .ret rfl
  ·rw [h1] at z;cases z
 unfold mayBeOne
 dsimp only
 refine .bnd (qfa hw ha) fun β1 x x' e1 hx=>?_
 subst hx
 refine .bnd (qfa hw (hb.mono e1)) fun β2 y y' e2 hy=>?_
 subst hy
 refine .bnd (nn ((ha.mono e1).mono e2)) fun β3 z z' e3 hz=>?_
 subst hz
 refine .bnd (nn (((hb.mono e1).mono e2).mono e3)) fun β4 u u' e4 hu=>?_
 subst hu
 exact .ret rfl
theorem q2l (hw:Cal.win = false) (q n m:Nat) (x y:Bool) {a a' b b':Addr} (ha:NdR β a a') (hb:NdR β b b'):SR Pa Pr (fun β=>VR β) β
  (if (a.block != b.block && x && y) = true then unsupported .addressObserved
   else do
    if a.block != b.block then do
     noView a;noView b
     if <-mayBeOne a b then return .bool ((<-choose (.extern "sameAddr.stringBytes" 2)) == 1)
    pure (.bool (a.block == b.block && a.off < b.off + m * q && b.off < a.off + n * q)):Sem Value)
  (if (a'.block != b'.block && x && y) = true then unsupported .addressObserved
   else do
    if a'.block != b'.block then do
     noView a';noView b'
     if <-mayBeOne a' b' then return .bool ((<-choose (.extern "sameAddr.stringBytes" 2)) == 1)
    pure (.bool (a'.block == b'.block && a'.off < b'.off + m * q && b'.off < a'.off + n * q)):Sem Value):=by
 refine .inj fun hi=>?_
 obtain ⟨k,k1,k2,k3,k4⟩:=id ha
 obtain ⟨l,l1,l2,l3,l4⟩:=id hb
 by_cases e:a.block = b.block
 ·have e':a'.block = b'.block:=(hi.fn k2 (by rw [e];exact l2)).1
  have h1:(a.block != b.block) = false:=by simp [e]
  have h2:(a'.block != b'.block) = false:=by simp [e']
  have h3:(a.block == b.block) = true:=by simp [e]
  have h4:(a'.block == b'.block) = true:=by simp [e']
  rw [h1,h2,h3,h4,k3,l3,Bool.false_and,Bool.false_and,if_neg Bool.false_ne_true,if_neg Bool.false_ne_true]
  exact .ret (.bool _)
 ·have e':a'.block ≠ b'.block:=fun z=>by
   rw [z] at k2
   rcases hi.inj k2 l2 with y | ⟨y,_⟩
   ·exact e y
   ·rw [k1] at y;cases y
  have h1:(a.block != b.block) = true:=by simp [e]
  have h2:(a'.block != b'.block) = true:=by simp [e']
  have h3:(a.block == b.block) = false:=by simp [e]
  have h4:(a'.block == b'.block) = false:=by simp [e']
  rw [h1,h2,h3,h4]
  refine qaz (fun _=>.dead jc) fun _=>?_
  refine qaz (fun _=>?_) fun z=>absurd rfl z
  refine .bnd (qgl ha.ad) fun β1 _ _ e1 _=>?_
  refine .bnd (qgl (hb.ad.mono e1)) fun β2 _ _ e2 _=>?_
  refine .bnd (qmo hw ((ha.mono e1).mono e2) ((hb.mono e1).mono e2)) fun β3 z z' e3 hz=>?_
  subst hz
  refine qaz (fun _=>?_) fun _=>.ret (.bool _)
  refine .bnd (RA:=fun _ a b=>b = a) (.choose fun n=>.pure rfl) fun β4 c c' e4 hc=>?_
  subst hc
  exact .ret (.bool _)
include S in
theorem qmp (hw:Cal.win = false) (ps rs:Array TypeId) {xs xs':Array Value} (h:AR β xs xs'):SR Pa Pr (fun β=>VR β) β (Extern.SlicesOverlaps.overlaps ps rs xs) (Extern.SlicesOverlaps.overlaps ps rs xs'):=by
 have hl:=h.toList
 obtain ⟨l⟩:=xs
 obtain ⟨l'⟩:=xs'
 simp only at hl
 cases hl with
 | nil=>exact .dead (qd _)
 | cons h1 t =>
  cases t with
  | nil=>cases h1 <;> exact .dead (qd _)
  | cons h2 t =>
   cases t with
   | cons h3 t=>cases h1 <;> cases h2 <;> exact .dead (qd _)
   | nil =>
    have key:∀ {f f':Nat->Sem Value},(∀ β' q,Ext β β'->SR Pa Pr (fun β=>VR β) β' (f q) (f' q)) ->
      SR Pa Pr (fun β=>VR β) β (do
       let some t:=ps[0]? | stuck "slices.overlaps: no parameter types"
       let .slice elem <-underlying t | stuck "slices.overlaps: slice type expected"
       let size <-sizeOf elem
       f size:Sem Value)
       (do
       let some t:=ps[0]? | stuck "slices.overlaps: no parameter types"
       let .slice elem <-underlying t | stuck "slices.overlaps: slice type expected"
       let size <-sizeOf elem
       f' size:Sem Value):=by
     intro f f' hf
     cases ps[0]? with
     | none=>exact .dead (qd _)
     | some t =>
      dsimp only
      refine .bnd (xu S.toAlike t) fun β1 u u' e1 hu=>?_
      obtain ⟨rfl,hu⟩:=hu
      cases u' <;> try exact .dead (qd _)
      refine .bnd (jm S.toAlike _) fun β2 q q' e2 hq=>?_
      obtain ⟨rfl,hq⟩:=hq
      exact hf _ _ (e1.trans e2)
    cases h1 with
    | slice0 n c=>cases h2 <;> first | exact key fun β' q e=>.ret (.bool _) | exact .dead (qd _)
    | slice o s n c hb =>
     cases h2 with
     | slice0 m d=>exact key fun β' q e=>.ret (.bool _)
     | slice o2 s2 m d hb2 =>
      refine key fun β' q e=>?_
      refine qaz (fun _=>.ret (.bool _)) fun _=>?_
      refine .bnd (qea hw (a:=⟨_,o,s⟩) (a':=⟨_,o + _,s⟩) ⟨_,e _ _ _ hb,rfl,rfl⟩) fun β1 x x' e1 hx=>?_
      obtain ⟨rfl,n1⟩:=hx
      refine .bnd (qea hw (a:=⟨_,o2,s2⟩) (a':=⟨_,o2 + _,s2⟩) ⟨_,e1 _ _ _ (e _ _ _ hb2),rfl,rfl⟩) fun β2 y y' e2 hy=>?_
      obtain ⟨rfl,n2⟩:=hy
      exact q2l hw q n m _ _ (n1.mono e2) n2
     | _=>exact .dead (qd _)
    | _=>exact .dead (qd _)
end
end Go.Proofs.Ytcdclihinmdgiaa.sq
namespace Go.Proofs.Ytcdclihinmdgiaa.sq
open Go
set_option linter.unusedVariables false
variable [Cal]
inductive NR (β:Bl):Next->Next->Prop
 | value {v v':Value} (h:VR β v v'):NR β (.value v) (.value v')
 | skip:NR β .skip .skip
 | enter (f:FuncId) (hf:Cal.ok f = true) {xs xs':Array Value} (h:AR β xs xs'):NR β (.enter f xs) (.enter f xs')
def okA:Operand->Bool
 | .tmp _=>true
 | .const v=>clo 20 v
 | .func f=>Cal.ok f
 | .global _=>false
def XOk (wn:Bool) (e:Array Value->Sem Value):Prop:=e = Extern.BytealgIndexByte.indexByte\/(wn = false/\∃ ps rs,e = Extern.SlicesOverlaps.overlaps ps rs)
structure Alike4 (Pa Pr:Program):Prop extends Alike3 Pa Pr where
 fn:∀ (f:FuncId) (fa:Func),Cal.ok f = true->Pa.funcs[f]? = some fa->∃ fr,Pr.funcs[f]? = some fr/\(fa.name == "runtime.NumGoroutine") = false/\(fr.name == "runtime.NumGoroutine") = false/\fr.body.isNone = fa.body.isNone ∧
  (fa.body.isNone = true->Extern.findNext fa = Option.none/\((Extern.find fa = Option.none/\(fa.name.endsWith ".init" && !fa.name.startsWith "(" && !fa.name.startsWith "gosem.") = false) ∨
   (Extern.findNext fr = Option.none/\∃ e,XOk Cal.win e/\Extern.find fa = some e/\Extern.find fr = some e)))
section
variable {Pa Pr:Program} (S:Alike4 Pa Pr) {β:Bl} {α α' γ γ':Type} {RA:Bl->α->α'->Prop}
theorem qmq {xs xs':Array Value} (h:AR β xs xs'):SR Pa Pr (fun β=>VR β) β (Extern.BytealgIndexByte.indexByte xs) (Extern.BytealgIndexByte.indexByte xs'):=by
 have hl:=h.toList
 obtain ⟨l⟩:=xs
 obtain ⟨l'⟩:=xs'
 simp only at hl
 cases hl with
 | nil=>exact .dead (qd _)
 | cons h1 t =>
  cases t with
  | nil=>exact .dead (qd _)
  | cons h2 t =>
   cases t with
   | nil=>exact qk3 h1 h2
   | cons h3 t=>exact .dead (qd _)
include S in
theorem q2m {e:Array Value->Sem Value} (he:XOk Cal.win e) {xs xs':Array Value} (h:AR β xs xs'):SR Pa Pr (fun β=>VR β) β (e xs) (e xs'):=by
 rcases he with rfl | ⟨hw,ps,rs,rfl⟩
 ·exact qmq h
 ·exact qmp S.toAlike3 hw ps rs h
theorem qs4 {m:Mark} {s:Sem α} (h:Dead Pa s):Dead Pa (.mark m s):=fun w=>h w
include S in
theorem qmr (f:FuncId) (hlt:Cal.ok f = true) {xs xs':Array Value} (h:AR β xs xs'):SR Pa Pr (fun β=>NR β) β (callFunc f xs) (callFunc f xs'):=by
 unfold callFunc
 refine .bnd qbl fun β1 p p' e hp=>?_
 obtain ⟨rfl,rfl⟩:=hp
 cases hf:p.funcs[f]? with
 | none=>exact .dead (qd _)
 | some fa =>
  obtain ⟨fr,hr,n1,n2,hb,hx⟩:=S.fn f fa hlt hf
  rw [hr]
  simp only [n1,n2,hb,Bool.false_eq_true,if_false]
  split
  ·rename_i hn
   obtain ⟨x1,x2⟩:=hx hn
   rcases x2 with ⟨x2,x3⟩ | ⟨x2,ex,x5,x3,x4⟩
   ·refine .dead (qs4 ?_)
    simp only [x1,x2]
    rw [x3]
    exact zw _ rfl
   ·refine .mark (.inr ⟨f,rfl⟩) ?_
    simp only [x1,x2,x3,x4]
    refine .bnd (RA:=fun β=>VR β) (q2m S x5 (h.mono e)) fun β2 v v' e2 hv=>?_
    exact SR.ret (NR.value hv)
  ·exact .ret (.enter f hlt (h.mono e))
include S in
theorem qs5 {fn:Value} {fn':Value} (h:VR β fn fn') {xs xs':Array Value} (hx:AR β xs xs') :
  SR Pa Pr (fun β=>NR β) β (Deferred.ofValue fn xs >>= fun d=>invoke d.target d.args) (Deferred.ofValue fn' xs' >>= fun d=>invoke d.target d.args):=by
 cases h with
 | func f hf a1 a2 b1 b2 =>
  refine .yw ?_
  exact qmr S f hf ((AR.app ⟨a1,a2⟩ hx).app ⟨b1,b2⟩)
 | nilFunc=>exact .yw (.dead (qy (e:=.nilDeref) rfl))
 | _=>exact .dead (Dead.bnd (qd _) _)
def okB (P:Program):Builtin->List TypeId->List Operand->Bool
 | .append,[t,u],[x,y]=>(qi4 P t u || qi5 P t u) && (okA x && okA y)
 | .cap,[t],[x]=>qp3 P t && okA x
 | .clear,[t],[x]=>qmm P t && okA x
 | .len,[t],[x]=>qp3 P t && okA x
 | .copy,[_,_],[x,y]=>okA x && okA y
 | .delete,[t,_],[x,y]=>mapOk P t && (okA x && okA y)
 | _,_,_=>false
def yg (P:Program) (c:Call):Bool:=match c.callee with
 | .value f=>okA f && c.args.all okA
 | .builtin b=>okB P b c.argTypes.toList c.args.toList
 | .invoke _ _=>false
def qs6 (P:Program) (op:BinOp) (t:TypeId) (y:Operand):Bool:=(match op with | .eql | .neq=>true | _=>false) && ((q3a P t && (match y with | .const (.pointer none)=>true | _=>false)) || (q3b P t && (match y with | .const (.slice none 0 0)=>true | _=>false)))
def bn (P:Program):Op->Bool
 | .move x | .assign x=>okA x
 | .pick c a b=>okA c && okA a && okA b
 | .alloc t=>ni P t
 | .box _ x=>okA x
 | .build t ps=>ni P t && ps.all fun p=>okA p.2
 | .buildSlice t _ ps=>qdj P t && ps.all fun p=>okA p.2
 | .load _ a=>okA a
 | .store _ a x=>okA a && okA x
 | .nilCheck x=>okA x
 | .binOp op t x y _=>okA x && okA y && (qb5 P 20 t || qs6 P op t y) && !P.eqGuardType P.depth t
 | .unOp _ _ x=>okA x
 | .convert s d x=>qsy P s d && okA x
 | .makeFunc (.func f) xs ys=>Cal.ok f && (xs.all okA && ys.all okA)
 | .makeMap _ none=>true
 | .makeSlice t x y=>qdj P t && okA x && okA y
 | .slice _ x l h m=>okA x && l.all okA && h.all okA && m.all okA
 | .fieldAddr s x n=>qmh P s n && okA x
 | .field _ x _=>okA x
 | .indexAddr _ x y=>okA x && okA y
 | .index _ x y=>okA x && okA y
 | .lookup t x y _=>mapOk P t && okA x && okA y
 | .mapUpdate t m k v=>mapOk P t && okA m && okA k && okA v
 | .range _ x=>okA x
 | .next x _=>okA x
 | .entry x=>okA x
 | .extract x _=>okA x
 | .call c=>yg P c
 | _=>false
def ρR (β:Bl) (ρ ρ':Operand->Value):Prop:=∀ x,okA x = true->VR β (ρ x) (ρ' x)
theorem ρR.arr {ρ ρ':Operand->Value} (h:ρR β ρ ρ') {xs:Array Operand} (hx:xs.all okA = true):AR β (xs.map ρ) (xs.map ρ') :=
 AR.map fun x hm=>h x (by rw [Array.all_eq_true_iff_forall_mem] at hx;exact hx x hm)
theorem ρR.opt {ρ ρ':Operand->Value} (h:ρR β ρ ρ') {x:Option Operand} (hx:x.all okA = true):OVR β (x.map ρ) (x.map ρ'):=by
 cases x with
 | none=>exact .none
 | some x=>exact .some (h x hx)
theorem j6 {s s':Sem Value} (h:SR Pa Pr (fun β=>VR β) β s s'):SRf Pa Pr true (fun β=>NR β) β (s >>= fun v=>pure (.value v)) (s' >>= fun v=>pure (.value v)) :=
 .bnd h fun _ _ _ _ hv=>.ret (.value hv)
theorem qz8 {s s':Sem Unit} (h:SR Pa Pr (fun _ _ _=>True) β s s'):SRf Pa Pr true (fun β=>NR β) β (s >>= fun _=>pure .skip) (s' >>= fun _=>pure .skip) :=
 .bnd h fun _ _ _ _ _=>.ret .skip
include S in
theorem qwf {op:BinOp} {t:TypeId} (hg:Pa.eqGuardType Pa.depth t = false) (x y:Operand) {a a' b b':Value} (ha:VR β a a') (hb:VR β b b') :
  SR Pa Pr (fun _ _ _=>True) β (eqGuard op t x y a b) (eqGuard op t x y a' b'):=by
 unfold eqGuard
 have g1:SR Pa Pr (fun _ _ _=>True) β (pure ():Sem Unit) (pure ()):=.ret trivial
 cases op
 all_goals dsimp only
 all_goals first
  | (simp only [Bool.not_false,if_true];exact g1;done)
  | (simp only [Bool.not_true,Bool.false_eq_true,if_false]
     cases ha with
     | agg =>
      cases hb with
      | agg =>
       refine SR.bnd qbl fun β2 p p' e2 hp=>?_
       obtain ⟨rfl,rfl⟩:=hp
       refine SR.bnd qbl fun β3 q q' e3 hq=>?_
       obtain ⟨rfl,rfl⟩:=hq
       rw [S.eqg,hg]
       exact .ret trivial
      | _=>exact g1
     | _=>cases hb <;> exact g1)
include S in
theorem qp6 {op:BinOp} {t:TypeId} (hg:Pa.eqGuardType Pa.depth t = false) (x y:Operand) (hf:(qb5 Pa 20 t || qs6 Pa op t y) = true) {ρ ρ':Operand->Value} (hc:∀ v,ρ (.const v) = v/\ρ' (.const v) = v) (ha:VR β (ρ x) (ρ' x)) (hb:VR β (ρ y) (ρ' y)) :
  SR Pa Pr (fun β=>VR β) β (eqGuard op t x y (ρ x) (ρ y) >>= fun _=>binOp op t (ρ x) (ρ y)) (eqGuard op t x y (ρ' x) (ρ' y) >>= fun _=>binOp op t (ρ' x) (ρ' y)):=by
 refine .bnd (qwf S hg x y ha hb) fun β1 _ _ e _=>?_
 cases h1:qb5 Pa 20 t with
 | true=>exact qv7 S.toAlike3 h1 (ha.mono e) (hb.mono e)
 | false =>
  rw [h1,Bool.false_or] at hf
  unfold qs6 at hf
  simp only [Bool.and_eq_true,Bool.or_eq_true] at hf
  obtain ⟨h2,h3⟩:=hf
  have ho:op = .eql\/op = .neq:=by cases op <;> first | exact .inl rfl | exact .inr rfl | cases h2
  rcases h3 with ⟨h3,h4⟩ | ⟨h3,h4⟩
  ·have h5:y = .const (.pointer none):=by
    split at h4
    ·rfl
    ·cases h4
   subst h5
   rw [(hc _).1,(hc _).2]
   exact qsx S.toAlike3 ho h3 (ha.mono e)
  ·have h5:y = .const (.slice none 0 0):=by
    split at h4
    ·rfl
    ·cases h4
   subst h5
   rw [(hc _).1,(hc _).2]
   exact qp5 S.toAlike3 ho h3 (ha.mono e)
theorem q0r (f:Operand->Value) {x:Operand}:Array.map f ⟨[x]⟩ = #[f x]:=by simp
theorem qz9 (f:Operand->Value) {x y:Operand}:Array.map f ⟨[x,y]⟩ = #[f x,f y]:=by simp
include S in
theorem ko {o:Oper} (hok:bn Pa o.op = true) {ρ ρ':Operand->Value} (hρ:ρR β ρ ρ') (hc:∀ v,ρ (.const v) = v/\ρ' (.const v) = v:=by intro _;exact ⟨rfl,rfl⟩):SRf Pa Pr true (fun β=>NR β) β (execOp ρ o) (execOp ρ' o):=by
 obtain ⟨dst,op,ty,pos,after,guard⟩:=o
 simp only at hok
 unfold execOp
 cases op <;> simp only [bn,Bool.and_eq_true,Bool.not_eq_true'] at hok ⊢ <;> try (exact (Bool.false_ne_true hok).elim)
 case move x=>exact .pure (.value (hρ x hok))
 case assign x=>exact .pure (.value (hρ x hok))
 case pick c a b =>
  refine .bnd (qsr (hρ c hok.1.1)) fun β1 x x' e hx=>?_
  subst hx
  cases x' with
  | true=>exact .ret (.value ((hρ a hok.1.2).mono e))
  | false=>exact .ret (.value ((hρ b hok.2).mono e))
 case alloc t=>exact j6 (qv1 S.toAlike hok)
 case box t x=>exact j6 (q2f t (hρ x hok))
 case build t ps=>exact j6 (qwb S.toAlike3 hok.1 (qkv fun x hx=>hρ x.2 (by rw [Array.all_eq_true_iff_forall_mem] at hok;exact hok.2 x hx)))
 case buildSlice t n ps=>exact j6 (qi3 S.toAlike3 hok.1 n (qkv fun x hx=>hρ x.2 (by rw [Array.all_eq_true_iff_forall_mem] at hok;exact hok.2 x hx)))
 case load t a=>exact j6 (qst S.toAlike t (hρ a hok))
 case store t a x=>exact qz8 (qps S.toAlike t (hρ a hok.1) (hρ x hok.2))
 case binOp op t x y t2=>exact j6 (qp6 S hok.2 x y hok.1.2 hc (hρ x hok.1.1.1) (hρ y hok.1.1.2))
 case unOp op t x=>exact j6 (qv8 op (hρ x hok))
 case convert s d x=>exact j6 (qp0 S.toAlike3 hok.1 (hρ x hok.2))
 case lookup t x y b=>exact j6 (qs0 S.toAlike3 hok.1.1 (hρ x hok.1.2) (hρ y hok.2) b)
 case mapUpdate t m k v=>exact qk2 S.toAlike3 hok.1.1.1 (hρ m hok.1.1.2) (hρ k hok.1.2) (hρ v hok.2) fun _=>.skip
 case range t x=>exact j6 (qwc S.toAlike3 t (hρ x hok))
 case next x b=>exact j6 (qz7 _ _ (hρ x hok) b)
 case entry x=>exact j6 (qwd (hρ x hok))
 case extract x n=>exact j6 (qpv (hρ x hok) n)
 case makeSlice t x y=>exact j6 (qk0 S.toAlike3 hok.1.1 (hρ x hok.1.2) (hρ y hok.2))
 case fieldAddr s x n=>exact j6 (qpt S.toAlike hok.1 (hρ x hok.2))
 case field t x n=>exact j6 (qv2 S.toAlike t (hρ x hok) n)
 case indexAddr t x y=>exact j6 (qpu S.toAlike t (hρ x hok.1) (hρ y hok.2))
 case index t x y=>exact j6 (qv3 S.toAlike t (hρ x hok.1) (hρ y hok.2))
 case slice t x l h m=>exact j6 (qp1 S.toAlike3 t (hρ x hok.1.1.1) (hρ.opt hok.1.1.2) (hρ.opt hok.1.2) (hρ.opt hok.2))
 case nilCheck x =>
  have h:=hρ x hok
  generalize hv:ρ x = v at h
  generalize hv':ρ' x = v' at h
  have h0:=h
  cases h with
  | ptr0=>exact .dead (qy rfl)
  | nilFunc=>exact .dead (qy rfl)
  | _=>exact .pure (.value h0)
 case makeFunc fn xs ys =>
  cases fn with
  | func f =>
   simp only [Bool.and_eq_true] at hok
   exact j6 (qmi f hok.1 (hρ.arr hok.2.1) (hρ.arr hok.2.2))
  | _=>cases hok
 case makeMap t r =>
  cases r with
  | none=>exact j6 (qpw t)
  | some r=>cases hok
 case call c =>
  obtain ⟨callee,⟨args⟩,⟨tys⟩⟩:=c
  unfold yg at hok
  cases callee with
  | value f =>
   simp only [Bool.and_eq_true] at hok
   exact (qs5 S (hρ f hok.1) (hρ.arr hok.2)).lift true
  | invoke=>cases hok
  | builtin b =>
   simp only at hok
   unfold okB at hok
   split at hok
   ·rename_i t u x y
    simp only [Bool.and_eq_true,Bool.or_eq_true] at hok
    refine j6 ?_
    show SR Pa Pr _ β (Builtin.append_ #[t,u] ty (Array.map ρ ⟨[x,y]⟩)) (Builtin.append_ #[t,u] ty (Array.map ρ' ⟨[x,y]⟩))
    rw [qz9 ρ,qz9 ρ']
    rcases hok.1 with z | z
    ·exact qsz S.toAlike3 z (hρ x hok.2.1) (hρ y hok.2.2)
    ·exact qmn S.toAlike3 z (hρ x hok.2.1) (hρ y hok.2.2)
   ·rename_i t x
    simp only [Bool.and_eq_true] at hok
    refine j6 ?_
    show SR Pa Pr _ β (Builtin.cap_ #[t] ty (Array.map ρ ⟨[x]⟩)) (Builtin.cap_ #[t] ty (Array.map ρ' ⟨[x]⟩))
    rw [q0r ρ,q0r ρ']
    exact q2k S.toAlike3 hok.1 (hρ x hok.2)
   ·rename_i t x
    simp only [Bool.and_eq_true] at hok
    refine j6 ?_
    show SR Pa Pr _ β (Builtin.clear_ #[t] ty (Array.map ρ ⟨[x]⟩)) (Builtin.clear_ #[t] ty (Array.map ρ' ⟨[x]⟩))
    rw [q0r ρ,q0r ρ']
    exact qwe S.toAlike3 hok.1 (hρ x hok.2)
   ·rename_i t x
    simp only [Bool.and_eq_true] at hok
    refine j6 ?_
    show SR Pa Pr _ β (Builtin.len_ #[t] ty (Array.map ρ ⟨[x]⟩)) (Builtin.len_ #[t] ty (Array.map ρ' ⟨[x]⟩))
    rw [q0r ρ,q0r ρ']
    exact q2i S.toAlike3 hok.1 (hρ x hok.2)
   ·rename_i t u x y
    simp only [Bool.and_eq_true] at hok
    refine j6 ?_
    show SR Pa Pr _ β (Builtin.copy_ #[t,u] ty (Array.map ρ ⟨[x,y]⟩)) (Builtin.copy_ #[t,u] ty (Array.map ρ' ⟨[x,y]⟩))
    rw [qz9 ρ,qz9 ρ']
    exact qz6 S.toAlike3 (hρ x hok.1) (hρ y hok.2)
   ·rename_i t u x y
    simp only [Bool.and_eq_true] at hok
    refine j6 ?_
    show SR Pa Pr _ β (Builtin.delete_ #[t,u] ty (Array.map ρ ⟨[x,y]⟩)) (Builtin.delete_ #[t,u] ty (Array.map ρ' ⟨[x,y]⟩))
    rw [qz9 ρ,qz9 ρ']
    exact qs1 S.toAlike3 hok.1 (hρ x hok.2.1) (hρ y hok.2.2)
   ·cases hok
end
end Go.Proofs.Ytcdclihinmdgiaa.sq
namespace Go.Proofs.Ytcdclihinmdgiaa.sq
open Go
set_option linter.unusedVariables false
variable [Cal]
structure OpR (P:Program) (Sp:Oper->Oper->Prop) (o o':Oper):Prop where
 dst:o.dst = o'.dst
 guard:o.guard = o'.guard
 op:(o = o'/\bn P o.op = true)\/Sp o o'
structure qqk (P:Program) (Sp:Oper->Oper->Prop) (ops ops':Array Oper):Prop where
 size:ops.size = ops'.size
 at_:∀ (i:Nat) (o o':Oper),ops[i]? = some o->ops'[i]? = some o'->OpR P Sp o o'
inductive qa3 (P:Program) (Sp:Oper->Oper->Prop):Code->Code->Prop
 | skip:qa3 P Sp .skip .skip
 | label (l:Nat):qa3 P Sp (.label l) (.label l)
 | exit (l:Nat):qa3 P Sp (.exit l) (.exit l)
 | ret:qa3 P Sp .ret .ret
 | refuse (s:String):qa3 P Sp (.refuse s) (.refuse s)
 | region (id:Nat) {ops ops':Array Oper} (h:qqk P Sp ops ops'):qa3 P Sp (.region id ops false) (.region id ops' false)
 | drawn (id:Nat) {ops:Array Oper} (h:ops.all (fun o=>bn P o.op) = true):qa3 P Sp (.region id ops true) (.region id ops true)
 | seq {a b a' b':Code} (h:qa3 P Sp a a') (g:qa3 P Sp b b'):qa3 P Sp (.seq a b) (.seq a' b')
 | cond (c:Operand) {a b a' b':Code} (hc:okA c = true) (h:qa3 P Sp a a') (g:qa3 P Sp b b'):qa3 P Sp (.cond c a b) (.cond c a' b')
 | block (id:Nat) {a a':Code} (h:qa3 P Sp a a'):qa3 P Sp (.block id a) (.block id a')
 | loop {a a':Code} (h:qa3 P Sp a a'):qa3 P Sp (.loop a) (.loop a')
inductive ItR (P:Program) (Sp:Oper->Oper->Prop):Item->Item->Prop
 | code {a a':Code} (h:qa3 P Sp a a'):ItR P Sp (.code a) (.code a')
 | inLoop {a a':Code} (h:qa3 P Sp a a'):ItR P Sp (.inLoop a) (.inLoop a')
 | inBlock (id:Nat):ItR P Sp (.inBlock id) (.inBlock id)
 | inRegion {ops ops':Array Oper} (l:List Nat) (h:qqk P Sp ops ops'):ItR P Sp (.inRegion ops l) (.inRegion ops' l)
inductive KR (P:Program) (Sp:Oper->Oper->Prop):List Item->List Item->Prop
 | nil:KR P Sp [] []
 | cons {x x':Item} {k k':List Item} (h:ItR P Sp x x') (g:KR P Sp k k'):KR P Sp (x :: k) (x' :: k')
section
variable {P:Program} {Sp:Oper->Oper->Prop}
theorem qqk.same {ops:Array Oper} (h:ops.all (fun o=>bn P o.op) = true):qqk P Sp ops ops:=by
 refine ⟨rfl,fun i o o' h1 h2=>?_⟩
 rw [h1] at h2;cases h2
 rw [Array.all_eq_true_iff_forall_mem] at h
 exact ⟨rfl,rfl,.inl ⟨rfl,h o (Array.mem_of_getElem? h1)⟩⟩
theorem qqk.get {ops ops':Array Oper} (h:qqk P Sp ops ops') {i:Nat} {o:Oper} (ho:ops[i]? = some o):∃ o',ops'[i]? = some o'/\OpR P Sp o o':=by
 have hi:i < ops'.size:=by rw [<-h.size];exact (Array.getElem?_eq_some_iff.1 ho).1
 exact ⟨ops'[i],Array.getElem?_eq_getElem hi,h.at_ i _ _ ho (Array.getElem?_eq_getElem hi)⟩
theorem qqk.none {ops ops':Array Oper} (h:qqk P Sp ops ops') {i:Nat} (ho:ops[i]? = none):ops'[i]? = none:=by
 rw [Array.getElem?_eq_none_iff] at ho ⊢;rw [<-h.size];exact ho
theorem qqk.dst {ops ops':Array Oper} (h:qqk P Sp ops ops') (i:Nat):(ops'[i]?).bind (·.dst) = (ops[i]?).bind (·.dst):=by
 cases ho:ops[i]? with
 | none=>rw [h.none ho]
 | some o=>obtain ⟨o',e,ho'⟩:=h.get ho;rw [e];exact ho'.dst.symm
theorem q0a {id:Nat} {k k':List Item} (h:KR P Sp k k'):∀ {q:List Item},exitTo id k = some q->∃ q',exitTo id k' = some q'/\KR P Sp q q':=by
 induction h with
 | nil=>intro q hq;simp [exitTo] at hq
 | cons h g ih =>
  intro q hq
  cases h with
  | inBlock id' =>
   simp only [exitTo] at hq ⊢
   split at hq
   ·cases hq;rename_i e;rw [if_pos e];exact ⟨_,rfl,g⟩
   ·rename_i e;rw [if_neg e];exact ih hq
  | _=>simp only [exitTo] at hq ⊢;exact ih hq
end
structure FrR (P:Program) (Sp:Oper->Oper->Prop) (β:Bl) (fa fr:Frame):Prop where
 fn:fr.fn = fa.fn
 tmps:AR β fa.tmps fr.tmps
 todo:KR P Sp fa.todo fr.todo
 nod:fa.defers = []
 nod':fr.defers = []
 mode:fr.mode = fa.mode
 run:fa.mode = .run\/fa.mode = .returning
 kind:fa.kind = .normal
 kind':fr.kind ≠ .early
 round:fa.roundOf = none
 round':fr.roundOf = none
section
variable {Pa Pr:Program} {Sp:Oper->Oper->Prop} {β β':Bl} {fa fr:Frame}
theorem FrR.mono (hb:Ext β β') (h:FrR Pa Sp β fa fr):FrR Pa Sp β' fa fr:=⟨h.fn,h.tmps.mono hb,h.todo,h.nod,h.nod',h.mode,h.run,h.kind,h.kind',h.round,h.round'⟩
theorem uj:VR β undef undef:=(AR.nil).tuple
theorem FrR.ρ (h:FrR Pa Sp β fa fr):ρR β fa.eval fr.eval:=by
 intro x hx
 cases x with
 | tmp t =>
  show VR β (fa.tmps.getD t undef) (fr.tmps.getD t undef)
  rw [Array.getD_eq_getD_getElem?,Array.getD_eq_getD_getElem?]
  cases ht:fa.tmps[t]? with
  | none=>rw [h.tmps.none ht];exact uj
  | some v=>obtain ⟨v',e,hv⟩:=h.tmps.get ht;rw [e];exact hv
 | const v=>exact qcd 20 v hx
 | func f=>exact .func f hx rfl (fun i v v' h=>by simp at h) rfl (fun i v v' h=>by simp at h)
 | global g=>cases hx
theorem AR.yielded {xs ys:Array Value} (h:AR β xs ys) {ops ops':Array Oper} (ho:qqk Pa Sp ops ops'):yielded ops' ys = yielded ops xs:=by
 funext j
 unfold Go.yielded
 rw [ho.dst]
 cases (ops[j]?).bind (·.dst) with
 | none=>rfl
 | some d =>
  simp only [Option.bind_some]
  cases hx:xs[d]? with
  | none=>rw [h.none hx]
  | some v=>obtain ⟨v',e,hv⟩:=h.get hx;rw [e];cases hv <;> rfl
theorem FrR.parts (h:FrR Pa Sp β fa fr):∃ fn ts ts' k k' m kd,fa = ⟨fn,ts,k,[],m,.normal,none⟩/\fr = ⟨fn,ts',k',[],m,kd,none⟩/\AR β ts ts'/\kd ≠ .early/\KR Pa Sp k k'/\(m = .run\/m = .returning):=by
 obtain ⟨fn,ts,k,d,m,kd,r⟩:=fa
 obtain ⟨fn',ts',k',d',m',kd',r'⟩:=fr
 have h1:=h.fn;have h2:=h.todo;have h3:=h.nod;have h4:=h.nod';have h5:=h.mode;have h6:=h.kind;have h7:=h.kind';have h8:=h.round;have h9:=h.round';have h10:=h.tmps;have h11:=h.run
 simp only at h1 h2 h3 h4 h5 h6 h7 h8 h9 h10 h11
 subst h1 h3 h4 h5 h6 h8 h9
 exact ⟨_,_,_,_,_,_,_,rfl,rfl,h10,h7,h2,h11⟩
theorem FrR.mk' {fn:FuncId} {ts ts':Array Value} {k k':List Item} {m:FrameMode} {kd:CallKind} (h:AR β ts ts') (hk:kd ≠ .early) (ok:KR Pa Sp k k') (hm:m = .run\/m = .returning) :
  FrR Pa Sp β ⟨fn,ts,k,[],m,.normal,none⟩ ⟨fn,ts',k',[],m,kd,none⟩:=⟨rfl,h,ok,rfl,rfl,rfl,hm,rfl,hk,rfl,rfl⟩
theorem FrR.finish (h:FrR Pa Sp β fa fr) {v v':Value} (hv:VR β v v'):FrR Pa Sp β (fa.finish v) (fr.finish v'):=by
 obtain ⟨fn,ts,ts',k,k',m,kd,rfl,rfl,ta,hkd,hk,hm⟩:=h.parts
 cases hk with
 | nil=>exact h
 | cons hi hk =>
  cases hi with
  | code _=>exact h
  | inLoop _=>exact h
  | inBlock _=>exact h
  | inRegion l ho =>
   cases l with
   | nil=>exact h
   | cons i l =>
    simp only [Frame.finish]
    rw [ho.dst]
    refine .mk' ?_ hkd (.cons (.inRegion l ho) hk) hm
    split
    ·exact ta.set _ hv
    ·exact ta
end
end Go.Proofs.Ytcdclihinmdgiaa.sq
namespace Go.Proofs.Ytcdclihinmdgiaa.sq
open Go Go.Conc
set_option linter.unusedVariables false
variable [Cal]
structure Moved (Pa Pr:Program) (Sp:Oper->Oper->Prop) (main':Bool) (β:Bl) (csA csR:List Frame) (gr:Goroutine) (w W:World) (ga':Goroutine) (w':World):Prop where
 ex:∃ β' fa' fr' W' es,ga' = G fa' csA/\stepG Pr main' gr W = .go (G fr' csR) W' es/\FrR Pa Sp β' fa' fr'/\(fr'.kind = gr.frame.kind/\fr'.fn = gr.frame.fn)/\Ran β β' w W w' W'/\∀ e ∈ es,qpr β' e
section
variable {Pa Pr:Program} {Sp:Oper->Oper->Prop} {β:Bl} {fa fr:Frame} {csA csR:List Frame} {w W:World} {main main':Bool}
theorem qeu (P:Program) (main:Bool) (f:Frame) (cs:List Frame) (w:World) (h:f.mode = .run):stepG P main (G f cs) w = stepG.exec P main true f cs none w:=by
 simp [stepG,G,h]
theorem qbn (P:Program) (w:World) (fn id:Nat):∃ n,(choose (.order fn id)).run P w = .ok n { w with drawn:=w.drawn + 1 }/\n = (Question.order fn id).cut (w.tape w.drawn (.order fn id)):=by
 refine ⟨_,?_,rfl⟩
 simp [choose,Sem.run,Question.forced]
def q0s (f:Frame):Prop:=∃ ops i l k o,f.todo = .inRegion ops (i :: l) :: k/\ops[i]? = some o/\Region.wanted o (yielded ops f.tmps) = true
theorem qi6 (hr:HR β w W) (ht:qkt w W) (h:FrR Pa Sp β fa fr) (hm:fa.mode = .run) (hsch:Pr.follows .mixedOrders = Pa.follows .mixedOrders)
  (hno:¬ q0s fa)
  {ga':Goroutine} {w':World} {es:Array Event} (hs:stepG Pa main (G fa csA) w = .go ga' w' es):Moved Pa Pr Sp main' β csA csR (G fr csR) w W ga' w':=by
 have hρ:=h.ρ
 obtain ⟨fn,ts,ts',todo,todo',m,kd,rfl,rfl,ta,hkd,hk,hmm⟩:=h.parts
 simp only at hm
 subst hm
 have E:stepG Pr main' (G _ csR) W = stepG.exec Pr main' true _ csR none W:=qeu Pr main' ⟨fn,ts',todo',[],.run,kd,none⟩ csR W rfl
 rw [qeu Pa main ⟨fn,ts,todo,[],.run,.normal,none⟩ csA w rfl] at hs
 have retd:FrR Pa Sp β ⟨fn,ts,todo,[],.returning,.normal,none⟩ ⟨fn,ts',todo',[],.returning,kd,none⟩:=.mk' ta hkd hk (.inr rfl)
 have mv:∀ {k k':List Item} {W':World} {ga':Goroutine} {w':World},KR Pa Sp k k'->ga' = G ⟨fn,ts,k,[],.run,.normal,none⟩ csA->Ran β β w W w' W' ->
   stepG Pr main' (G ⟨fn,ts',todo',[],.run,kd,none⟩ csR) W = .go (G ⟨fn,ts',k',[],.run,kd,none⟩ csR) W' #[]->Moved Pa Pr Sp main' β csA csR (G ⟨fn,ts',todo',[],.run,kd,none⟩ csR) w W ga' w':=by
  intro k k' W' ga' w' hk e1 r e3
  exact ⟨β,_,_,W',#[],e1,e3,.mk' ta hkd hk (.inl rfl),⟨rfl,rfl⟩,r,by simp⟩
 clear h
 cases hk with
 | nil =>
  simp only [stepG.exec] at hs
  simp only [stepG.exec] at E
  simp only [if_pos] at hs E
  cases hs
  exact ⟨β,_,_,W,#[],rfl,E,retd,⟨rfl,rfl⟩,.refl hr,by simp⟩
 | @cons it it' k k' hi hk =>
  cases hi with
  | inBlock id =>
   simp only [stepG.exec] at hs E
   cases hs
   exact mv hk rfl (.refl hr) E
  | inLoop hc =>
   simp only [stepG.exec] at hs E
   cases hs
   exact mv (.cons (.code hc) (.cons (.inLoop hc) hk)) rfl (.refl hr) E
  | code hc =>
   cases hc with
   | skip =>
    simp only [stepG.exec] at hs E
    cases hs
    exact mv hk rfl (.refl hr) E
   | label l =>
    simp only [stepG.exec] at hs E
    cases hs
    exact mv hk rfl (.refl hr) E
   | seq ha hb =>
    simp only [stepG.exec] at hs E
    cases hs
    exact mv (.cons (.code ha) (.cons (.code hb) hk)) rfl (.refl hr) E
   | @cond c a b a' b' hcc ha hb =>
    have hc:=hρ c hcc
    simp only [stepG.exec] at hs E
    generalize Frame.eval ⟨fn,ts,.code (.cond c a b) :: k,[],.run,.normal,none⟩ c = va at hs hc
    generalize Frame.eval ⟨fn,ts',.code (.cond c a' b') :: k',[],.run,kd,none⟩ c = vr at E hc
    cases hc with
    | bool t =>
     simp only at hs E
     cases hs
     refine mv (.cons (.code ?_) hk) rfl (.refl hr) E
     cases t
     ·exact hb
     ·exact ha
    | _=>simp only at hs;cases hs
   | block id hc =>
    simp only [stepG.exec] at hs E
    cases hs
    exact mv (.cons (.code hc) (.cons (.inBlock id) hk)) rfl (.refl hr) E
   | loop hc =>
    simp only [stepG.exec] at hs E
    cases hs
    exact mv (.cons (.code hc) (.cons (.inLoop hc) hk)) rfl (.refl hr) E
   | exit id =>
    simp only [stepG.exec] at hs E
    cases hx:exitTo id k with
    | none=>rw [hx] at hs;simp at hs
    | some q =>
     obtain ⟨q',hx',hq⟩:=q0a hk hx
     rw [hx] at hs
     rw [hx'] at E
     simp only [Option.elim] at hs E
     cases hs
     exact mv hq rfl (.refl hr) E
   | ret =>
    simp only [stepG.exec] at hs E
    simp only [if_pos] at hs E
    cases hs
    exact ⟨β,_,_,W,#[],rfl,E,retd,⟨rfl,rfl⟩,.refl hr,by simp⟩
   | refuse s =>
    simp only [stepG.exec] at hs
    cases hs
   | @region id ops ops' ho =>
    simp only [stepG.exec] at hs E
    simp only [Bool.not_false,if_true] at hs E
    cases hs
    rw [<-ho.size] at E
    exact mv (.cons (.inRegion _ ho) hk) rfl (.refl hr) E
   | @drawn id ops ho =>
    obtain ⟨n,e1,en⟩:=qbn Pa w fn id
    obtain ⟨n',e2,en'⟩:=qbn Pr W fn id
    have:n' = n:=by rw [en,en'];rw [show w.tape w.drawn _ = W.tape W.drawn _ from ht 0 _]
    subst this
    simp only [stepG.exec,e1,e2] at hs E
    simp only [Bool.not_true,Bool.false_eq_true,if_false,hsch] at hs E
    cases hs
    exact mv (W':={ W with drawn:=W.drawn + 1 }) (.cons (.inRegion _ (.same ho)) hk) rfl ⟨Ext.refl _,⟨hr.inj,hr.at_⟩,fun _ _ _ x=>.inl x,Nat.le_refl _,Nat.le_refl _,fun _ _ _=>rfl,fun _ _ _=>rfl,rfl,rfl,rfl,rfl,rfl,rfl⟩ E
  | @inRegion ops ops' l ho =>
   cases l with
   | nil =>
    simp only [stepG.exec] at hs E
    cases hs
    exact mv hk rfl (.refl hr) E
   | cons i l =>
    have hn:((ops[i]?).map (Region.wanted · (yielded ops ts))).getD false = false:=by
     cases hoi:ops[i]? with
     | none=>rfl
     | some o =>
      simp only [Option.map_some,Option.getD_some]
      cases hw:Region.wanted o (yielded ops ts) with
      | false=>rfl
      | true=>exact absurd ⟨ops,i,l,k,o,rfl,hoi,hw⟩ hno
    have hn':((ops'[i]?).map (Region.wanted · (yielded ops' ts'))).getD false = false:=by
     rw [ta.yielded ho,<-hn]
     cases hoi:ops[i]? with
     | none=>rw [ho.none hoi];rfl
     | some o =>
      obtain ⟨o',e,hoo⟩:=ho.get hoi
      rw [e]
      simp only [Option.map_some,Option.getD_some,Region.wanted,hoo.guard]
    have fin:=FrR.finish (FrR.mk' (Pa:=Pa) (Sp:=Sp) (fn:=fn) ta hkd (.cons (.inRegion (i :: l) ho) hk) (.inl rfl)) (uj (β:=β))
    simp only [stepG.exec,hn,hn'] at hs E
    simp only [Bool.false_eq_true,if_false] at hs E
    cases hs
    exact ⟨β,_,_,W,#[],rfl,E,fin,⟨rfl,rfl⟩,.refl hr,by simp⟩
end
end Go.Proofs.Ytcdclihinmdgiaa.sq
namespace Go.Proofs.Ytcdclihinmdgiaa.sq
open Go Go.Conc
set_option linter.unusedVariables false
variable [Cal]
structure je (K:FuncId->Prop) (Pa Pr:Program) (Sp:Oper->Oper->Prop):Prop extends Alike4 Pa Pr where
 le:∀ {f:FuncId},Ent f->K f
 sch:Pr.follows .mixedOrders = Pa.follows .mixedOrders
 text:∀ (f:FuncId) (fa:Func),K f->Pa.funcs[f]? = some fa->∃ fr,Pr.funcs[f]? = some fr/\fr.results = fa.results
 code:∀ (f:FuncId) (fa:Func),Ent f->Pa.funcs[f]? = some fa->∃ fr,Pr.funcs[f]? = some fr/\fr.ntmps = fa.ntmps/\((fa.body = Option.none/\fr.body = Option.none)\/∃ c c',fa.body = some c/\fr.body = some c'/\qa3 Pa Sp c c')
 some_:∀ (f:FuncId),K f->∃ fa,Pa.funcs[f]? = some fa
section
variable {K:FuncId->Prop} {Pa Pr:Program} {Sp:Oper->Oper->Prop} {β β':Bl} {fa fr:Frame} {csA csR:List Frame} {w W:World} {main main':Bool}
theorem pq (P:Program) (main:Bool) {f:Frame} (cs:List Frame) (w:World) {ops:Array Oper} {i:Nat} {l:List Nat} {k:List Item} {o:Oper}
  (hm:f.mode = .run) (hrd:f.roundOf = none) (htd:f.todo = .inRegion ops (i :: l) :: k) (ho:ops[i]? = some o) (hw:Region.wanted o (yielded ops f.tmps) = true) :
  stepG P main (G f cs) w = stepG.apply P true f cs none (execOp f.eval o) w:=by
 rw [qeu P main f cs w hm]
 have h1:f.oper? = some o:=by simp [Frame.oper?,htd,ho]
 have h2:stepG.exec P main true f cs none w = stepG.oper P true f cs none w:=by
  simp only [stepG.exec,htd]
  rw [if_pos (by simp [ho,hw])]
 rw [h2]
 simp only [stepG.oper,h1,hrd]
theorem jw (P:Program) {f:Frame} (cs:List Frame) (s:Sem Next) {w w':World} {n:Next} {es:Array Event} (hk:f.kind ≠ .early) (hr:s.runT P w #[] = (.ok n w',es))
  (ht:∀ d b r s k,f.todo ≠ .call d b r s :: k) :
  (∀ v,n = .value v->stepG.apply P true f cs none s w = .go (G (f.finish v) cs) w' (seen P f.fn es))/\(n = .skip->stepG.apply P true f cs none s w = .go (G (f.finish undef) cs) w' (seen P f.fn es)) ∧
  (∀ g xs,n = .enter g xs->stepG.apply P true f cs none s w = .go (G (Frame.enter P g xs .normal) (f :: cs)) w' (seen P f.fn es)):=by
 have hb:(f.kind == .early) = false:=by simpa using hk
 refine ⟨?_,?_,?_⟩
 ·rintro v rfl
  simp only [stepG.apply,if_true,hr,hb,Bool.false_eq_true,if_false,GStep.after,G]
  simp
 ·rintro rfl
  simp only [stepG.apply,if_true,hr,hb,Bool.false_eq_true,if_false,GStep.after,G]
  simp
 ·rintro g xs rfl
  simp only [stepG.apply,if_true,hr,hb,Bool.false_eq_true,if_false,GStep.after,G]
  simp only [Array.append_empty]
  split
  ·rename_i e;exact absurd e (ht _ _ _ _ _)
  ·rfl
theorem raise_mode (f:Frame) (vs:List PanicEntry):∃ c,(f.raise vs).mode = .panicking c:=by
 unfold Frame.raise
 split <;> exact ⟨_,rfl⟩
theorem qev (P:Program) {f:Frame} (cs:List Frame) (s:Sem Next) {w w':World} {x:Halt} {es:Array Event} (hr:s.runT P w #[] = (.halt x w',es)) (hx:qvy x) :
  ∀ {ga:Goroutine} {w2:World} {es2:Array Event},stepG.apply P true f cs none s w = .go ga w2 es2->∃ c,ga.frame.mode = .panicking c:=by
 intro ga w2 es2 h
 cases x with
 | panic v =>
  simp only [stepG.apply,if_true,hr,GStep.after] at h
  cases h
  exact raise_mode f _
 | stuck s =>
  simp only [stepG.apply,if_true,hr,GStep.after] at h
  cases h
 | unsupported u =>
  cases u with
  | initOrder g=>cases hx
  | _ =>
   simp only [stepG.apply,if_true,hr,GStep.after] at h
   cases h
 | _=>cases hx
structure qwg (Pa Pr:Program) (Sp:Oper->Oper->Prop) (main':Bool) (β:Bl) (fa fr:Frame) (csA csR:List Frame) (w W:World) (ga':Goroutine) (w':World):Prop where
 ex:∃ β' W' es,Ran β β' w W w' W'/\(∀ e ∈ es,qpr β' e) ∧
  ((∃ fa' fr',ga' = G fa' csA/\stepG Pr main' (G fr csR) W = .go (G fr' csR) W' es/\FrR Pa Sp β' fa' fr'/\fr'.kind = fr.kind/\fr'.fn = fr.fn) ∨
   (∃ g xs xs',Cal.ok g = true/\ga' = G (Frame.enter Pa g xs .normal) (fa :: csA)/\stepG Pr main' (G fr csR) W = .go (G (Frame.enter Pr g xs' .normal) (fr :: csR)) W' es/\AR β' xs xs'))
theorem qms (S:je K Pa Pr Sp) (hr:HR β w W) (ht:qkt w W) (h:FrR Pa Sp β fa fr) (hm:fa.mode = .run) {ops:Array Oper} {i:Nat} {l:List Nat} {k:List Item} {o:Oper}
  (htd:fa.todo = .inRegion ops (i :: l) :: k) (ho:ops[i]? = some o) (hw:Region.wanted o (yielded ops fa.tmps) = true) (hok:bn Pa o.op = true) (hsp:∀ o',¬ Sp o o')
  {ga':Goroutine} {w':World} {es:Array Event} (hs:stepG Pa main (G fa csA) w = .go ga' w' es) (hnp:∀ c,ga'.frame.mode ≠ .panicking c):qwg Pa Pr Sp main' β fa fr csA csR w W ga' w':=by
 have hρ:=h.ρ
 have h0:=h
 obtain ⟨fn,ts,ts',todo,todo',m,kd,rfl,rfl,ta,hkd,hk,hmm⟩:=h.parts
 simp only at hm htd hw
 subst hm htd
 cases hk with
 | @cons it it' k k' hi hk =>
 cases hi with
 | @inRegion ops ops' l' hops =>
 obtain ⟨o',ho',hoo⟩:=hops.get ho
 have e0:o = o':=by
  rcases hoo.op with ⟨e,_⟩ | e
  ·exact e
  ·exact absurd e (hsp _)
 subst e0
 have hw':Region.wanted o (yielded ops' ts') = true:=by rw [ta.yielded hops];exact hw
 rw [pq Pa main csA w rfl rfl rfl ho hw] at hs
 have E:=pq Pr main' (f:=⟨fn,ts',.inRegion ops' (i :: l) :: k',[],.run,kd,none⟩) csR W rfl rfl rfl ho' hw'
 have sr:=ko S.toAlike4 hok hρ
 cases hra:(execOp (Frame.eval ⟨fn,ts,.inRegion ops (i :: l) :: k,[],.run,.normal,none⟩) o).runT Pa w #[] with
 | mk r esA =>
  have hrun:(execOp (Frame.eval ⟨fn,ts,.inRegion ops (i :: l) :: k,[],.run,.normal,none⟩) o).run Pa w = r:=by rw [<-Sem.runT_fst _ _ w #[],hra]
  cases r with
  | halt x w2 =>
   obtain ⟨c,hc⟩:=qev Pa csA _ hra (sr.mild hr hrun) hs
   exact absurd hc (hnp c)
  | ok n w2 =>
   obtain ⟨β',n',W',new,h1,h2,h3,h4⟩:=sr.sound (ES:=#[]) hr (.inl ht) hrun
   rw [Array.empty_append] at h1
   have A:=jw Pa csA _ (f:=⟨fn,ts,.inRegion ops (i :: l) :: k,[],.run,.normal,none⟩) (by simp) hra (by simp)
   have R:=jw Pr csR _ (f:=⟨fn,ts',.inRegion ops' (i :: l) :: k',[],.run,kd,none⟩) (by simpa using hkd) h1 (by simp)
   have ev:∀ e ∈ seen Pr fn new,qpr β' e:=fun e he=>h4 e (mem_seen he)
   cases h3 with
   | value hv =>
    rw [A.1 _ rfl] at hs
    rw [R.1 _ rfl] at E
    cases hs
    exact ⟨β',W',_,h2,ev,.inl ⟨_,_,rfl,E,(h0.mono h2.ext).finish hv,rfl,rfl⟩⟩
   | skip =>
    rw [A.2.1 rfl] at hs
    rw [R.2.1 rfl] at E
    cases hs
    exact ⟨β',W',_,h2,ev,.inl ⟨_,_,rfl,E,(h0.mono h2.ext).finish uj,rfl,rfl⟩⟩
   | enter g hg hx =>
    rw [A.2.2 _ _ rfl] at hs
    rw [R.2.2 _ _ rfl] at E
    cases hs
    exact ⟨β',W',_,h2,ev,.inr ⟨g,_,_,hg,rfl,E,hx⟩⟩
theorem FrR.enter (S:je K Pa Pr Sp) {g:FuncId} (hg:Ent g) {xs xs':Array Value} (hx:AR β xs xs') {kd:CallKind} (hkd:kd ≠ .early):FrR Pa Sp β (Frame.enter Pa g xs .normal) (Frame.enter Pr g xs' kd):=by
 obtain ⟨fa,e1⟩:=S.some_ g (S.le hg)
 obtain ⟨fr,e2,e3,e5⟩:=S.code g fa hg e1
 unfold Frame.enter
 rcases e5 with ⟨b1,b2⟩ | ⟨c,c',b1,b2,h⟩
 ·simp only [e1,e2,Option.map_some,Option.getD_some,Option.bind_some,b1,b2,Option.getD_none,e3,<-hx.size]
  exact .mk' (hx.app (.replicate _ uj)) hkd (.cons (.code (.refuse _)) .nil) (.inl rfl)
 ·simp only [e1,e2,Option.map_some,Option.getD_some,Option.bind_some,b1,b2,e3,<-hx.size]
  exact .mk' (hx.app (.replicate _ uj)) hkd (.cons (.code h) .nil) (.inl rfl)
theorem qs7 {v v':Value} (h:VR β v v'):SR Pa Pr (fun β=>AdR β) β (asAddr v) (asAddr v'):=by
 cases h with
 | ptr0=>exact .dead (qy (e:=.nilDeref) rfl)
 | ptr o s h=>exact .ret ⟨_,h,rfl,rfl⟩
 | _=>exact .dead (qd _)
theorem qs8 {xs ys:Array Value} (h:AR β xs ys) (i:Nat):VR β (xs.getD i undef) (ys.getD i undef):=by
 rw [Array.getD_eq_getD_getElem?,Array.getD_eq_getD_getElem?]
 cases ht:xs[i]? with
 | none=>rw [h.none ht];exact uj
 | some v=>obtain ⟨v',e,hv⟩:=h.get ht;rw [e];exact hv
theorem qdb (S:Alike Pa Pr) {fa fr:Func} (he:fr.results = fa.results) {ts ts':Array Value} (h:AR β ts ts'):SR Pa Pr (fun β=>VR β) β (results fa ts) (results fr ts'):=by
 unfold results
 rw [he]
 have key:∀ (l:List ResultVar) {β:Bl},AR β ts ts'->SR Pa Pr (fun β r r'=>LR β r r') β
   (l.mapM fun x=>match x with | .tmp t=>(pure (ts.getD t undef):Sem Value) | .cell a t=>do loadVar t (<-asAddr (ts.getD a undef)))
   (l.mapM fun x=>match x with | .tmp t=>(pure (ts'.getD t undef):Sem Value) | .cell a t=>do loadVar t (<-asAddr (ts'.getD a undef))):=by
  intro l
  induction l with
  | nil=>intro β _;simp only [List.mapM_nil];exact .ret .nil
  | cons x l ih =>
   intro β h
   simp only [List.mapM_cons]
   refine .bnd (RA:=fun β=>VR β) ?_ fun β1 r r' e hr=>?_
   ·cases x with
    | tmp t=>exact .ret (qs8 h t)
    | cell a t=>exact .bnd (qs7 (qs8 h a)) fun β2 p p' e hp=>qhv S t hp
   ·refine .bnd (ih (h.mono e)) fun β2 q q' e2 hq=>?_
    exact .ret (.cons (hr.mono e2) hq)
 rw [Array.mapM_eq_mapM_toList,Array.mapM_eq_mapM_toList]
 refine .bnd (RA:=fun β=>AR β) ((key fa.results.toList h).bind fun β1 r r' e hr=>.pure (AR.ofList hr)) fun β1 r r' e hr=>?_
 refine .ret ?_
 by_cases h1:r.size = 1
 ·have h2:r'.size = 1:=by rw [<-hr.size];exact h1
  rw [dif_pos h1,dif_pos h2]
  exact hr.at_ 0 _ _ (Array.getElem?_eq_getElem _) (Array.getElem?_eq_getElem _)
 ·have h2:r'.size ≠ 1:=by rw [<-hr.size];exact h1
  rw [dif_neg h1,dif_neg h2]
  exact hr.tuple
theorem qa0 (P:Program) (main:Bool) {f:Frame} (cs:List Frame) {w w':World} {fn:Func} {v:Value} {es:Array Event} (hm:f.mode = .returning) (hd:f.defers = []) (hf:P.funcs[f.fn]? = some fn)
  (hr:(results fn f.tmps).runT P w #[] = (.ok v w',es)):stepG P main (G f cs) w = GStep.after (seen P f.fn es) (doReturn P main f cs none v w'):=by
 simp only [stepG,G,hm,unwind,hd,hf,hr]
theorem qgq (P:Program) (main:Bool) {f:Frame} (cs:List Frame) {w w':World} {fn:Func} {x:Halt} {es:Array Event} (hm:f.mode = .returning) (hd:f.defers = []) (hf:P.funcs[f.fn]? = some fn)
  (hr:(results fn f.tmps).runT P w #[] = (.halt x w',es)):∀ {g w2 es2},stepG P main (G f cs) w ≠ .go g w2 es2:=by
 intro g w2 es2 h
 simp only [stepG,G,hm,unwind,hd,hf,hr] at h
 cases x <;> (simp only [GStep.after] at h;cases h)
theorem step_ret (S:je K Pa Pr Sp) (hr:HR β w W) (ht:qkt w W) (h:FrR Pa Sp β fa fr) (hm:fa.mode = .returning) (hfn:K fa.fn) (hkd:fr.kind = .normal) {ca cr:Frame}
  {ga':Goroutine} {w':World} {es:Array Event} (hs:stepG Pa main (G fa (ca :: csA)) w = .go ga' w' es) :
  ∃ β' v v' W' es',Ran β β' w W w' W'/\(∀ e ∈ es',qpr β' e)/\ga' = G (ca.finish v) csA/\stepG Pr main' (G fr (cr :: csR)) W = .go (G (cr.finish v') csR) W' es'/\VR β' v v':=by
 obtain ⟨Fa,e1⟩:=S.some_ fa.fn hfn
 obtain ⟨Fr,e2,e4⟩:=S.text fa.fn Fa hfn e1
 have sr:=qdb (Pa:=Pa) (Pr:=Pr) S.toAlike e4 h.tmps
 have hm':fr.mode = .returning:=by rw [h.mode,hm]
 have e2':Pr.funcs[fr.fn]? = some Fr:=by rw [h.fn];exact e2
 cases hra:(results Fa fa.tmps).runT Pa w #[] with
 | mk r esA =>
  have hrun:(results Fa fa.tmps).run Pa w = r:=by rw [<-Sem.runT_fst _ _ w #[],hra]
  cases r with
  | halt x w2=>exact absurd hs (qgq Pa main _ hm h.nod e1 hra)
  | ok v w2 =>
   obtain ⟨β',v',W',new,h1,h2,h3,h4⟩:=sr.sound (ES:=#[]) hr (.inl ht) hrun
   rw [Array.empty_append] at h1
   have A:=qa0 Pa main (ca :: csA) hm h.nod e1 hra
   have R:=qa0 Pr main' (cr :: csR) hm' h.nod' e2' h1
   simp only [doReturn,h.kind,GStep.after] at A
   simp only [doReturn,hkd,GStep.after] at R
   rw [A] at hs
   cases hs
   refine ⟨β',v,v',W',seen Pr fr.fn new ++ #[],h2,fun e he=>?_,rfl,R,h3⟩
   rw [Array.append_empty] at he
   exact h4 e (mem_seen he)
end
end Go.Proofs.Ytcdclihinmdgiaa.sq
namespace Go.Proofs.Ytcdclihinmdgiaa.sq
open Go Go.Conc
set_option linter.unusedVariables false
variable [Cal]
def qj (τ:Tape) (w:World):World:={ w with tape:=τ }
def Same (τ:Tape) (w w':World):Prop:=∀ i q,w.drawn<=i->i < w'.drawn->τ i q = w.tape i q
section
variable {Pa Pr:Program} {α α':Type} {RA:Bl->α->α'->Prop}
theorem SRf.local {fl:Bool} {β:Bl} {s:Sem α} {s':Sem α'} (h:SRf Pa Pr fl RA β s s'):∀ {w W:World} {a:α} {w':World} {τ:Tape},HR β w W->s.run Pa w = .ok a w'->Same τ w w' ->
  s.run Pa (qj τ w) = .ok a (qj τ w')/\w.drawn<=w'.drawn/\w'.tape = w.tape:=by
 induction h with
 | pure h=>intro w W a w' τ hr hs ht;cases hs;exact ⟨rfl,Nat.le_refl _,rfl⟩
 | @load β a b k o s c c' hb _ ih =>
  intro w W x w' τ hr hs ht
  cases hc:w.cell? ⟨a,o,s⟩ with
  | none =>
   obtain ⟨e,he,hm⟩:=hr.far (o:=o) (s:=s) hb Pa (Mode.plain == .atomic)
   simp only [Sem.run,hc,he] at hs
   cases hs
  | some v =>
   obtain ⟨_,v',hv',hv⟩:=hr.cell hb hc
   simp only [Sem.run,hc] at hs
   have hc':(qj τ w).cell? ⟨a,o,s⟩ = some v:=hc
   simp only [Sem.run,hc']
   exact ih v v' hv hr hs ht
 | @store β a b k o s v v' c c' hb hv _ ih =>
  intro w W x w' τ hr hs ht
  have e1:∀ w:World,one v = true->(Sem.store .plain ⟨a,o,s⟩ v c).run Pa w = match w.cell? ⟨a,o,s⟩ with
    | some _=>if w.frozen? ⟨a,o,s⟩ then .halt (.unsupported (.unsafePointer "a write to bytes that a string shares")) w else c.run Pa (w.setCell ⟨a,o,s⟩ v)
    | none=>match w.farStore Pa ⟨a,o,s⟩ v false with
     | .ok (w,_)=>c.run Pa w
     | .error h=>.halt h w:=by
   intro w hu
   cases v <;> first | rfl | cases hu
  by_cases h1v:one v = true
  ·rw [e1 _ h1v] at hs ⊢
   cases hc:w.cell? ⟨a,o,s⟩ with
   | none =>
    obtain ⟨e,he,hm⟩:=hr.q3y (o:=o) (s:=s) hb Pa v false
    simp only [hc,he] at hs
    cases hs
   | some u =>
    obtain ⟨hk,u',hu',_⟩:=hr.cell hb hc
    have hc':(qj τ w).cell? ⟨a,o,s⟩ = some u:=hc
    simp only [hc] at hs
    simp only [hc']
    split at hs
    ·cases hs
    ·rename_i hf
     obtain rfl:k = .cells:=by
      rcases hk with e | ⟨_,e⟩
      ·exact e
      ·exact absurd e hf
     have hf':¬ (qj τ w).frozen? ⟨a,o,s⟩ = true:=hf
     rw [if_neg hf']
     exact ih (τ:=τ) (hr.setCell hb o s hv) hs ht
  ·cases v <;> first | exact absurd rfl h1v | (simp only [Sem.run] at hs;cases hs)
 | @new β k o o' c c' ho hk _ ih =>
  intro w W x w' τ hr hs ht
  exact ih (β.new w.heap.size W.heap.size k) w.heap.size W.heap.size (fun _ _ _ x=>.inl x) (.inr ⟨rfl,rfl,rfl⟩) (τ:=τ) (hr.new ho) hs ht
 | @shape β a b k c c' hb _ ih =>
  intro w W x w' τ hr hs ht
  exact ih (w.shape? a) (W.shape? b) (hr.shape hb) (τ:=τ) hr hs ht
 | @freeze β a b o n s s' c c' hb _ ih =>
  intro w W x w' τ hr hs ht
  have z:(w.freeze ⟨a,o,s⟩ n).drawn = w.drawn/\(w.freeze ⟨a,o,s⟩ n).tape = w.tape/\(qj τ w).freeze ⟨a,o,s⟩ n = qj τ (w.freeze ⟨a,o,s⟩ n):=by
   unfold World.freeze qj
   split <;> exact ⟨rfl,rfl,rfl⟩
  have:=ih (τ:=τ) (hr.freeze hb o s s' n) hs (fun i q h1 h2=>by rw [z.2.1];exact ht i q (by rw [<-z.1];exact h1) h2)
  rw [z.1,z.2.1] at this
  simp only [Sem.run,z.2.2]
  exact this
 | @frozen β a b k o s s' c c' hw hb _ ih =>
  intro w W x w' τ hr hs ht
  exact ih (w.frozen? ⟨a,o,s⟩) (hr.frz hw hb o s s').1 (τ:=τ) hr hs ht
 | @getObj β a b k c c' hb _ ih =>
  intro w W x w' τ hr hs ht
  obtain ⟨o,o',h1,h2,ho⟩:=hr.at_ a b k hb
  by_cases hk:k = .cells\/k.qdi = true
  ·obtain ⟨y,e,f,rfl⟩:=ho.qc8 hk
   simp only [Sem.run,h1] at hs
   cases hs
  ·have nc:=(ho.qbj (fun e=>hk (.inl e)) (by cases h:k.qdi with
    | true=>exact absurd (.inr h) hk
    | false=>rfl)).1
   rw [qb2 h1 nc] at hs
   have h1':(qj τ w).heap[a]? = some o:=h1
   rw [qb2 h1' nc]
   exact ih o o' ho hr hs ht
 | @getBad β a b k c s' hb hk =>
  intro w W x w' τ hr hs ht
  obtain ⟨o,o',h1,h2,ho⟩:=hr.at_ a b k hb
  obtain ⟨y,e,f,rfl⟩:=ho.qc8 (.inr hk)
  simp only [Sem.run,h1] at hs
  cases hs
 | @setObj β a b k o o' c c' hb hk ho _ ih =>
  intro w W x w' τ hr hs ht
  obtain ⟨p,p',h1,h2,hp⟩:=hr.at_ a b k hb
  have hk2:k ≠ .cells:=by rcases hk with y | y <;> subst y <;> decide
  have hk3:k.qdi = false:=by rcases hk with y | y <;> subst y <;> rfl
  have nc:=(hp.qbj hk2 hk3).1
  rw [qb3 h1 nc] at hs
  have h1':(qj τ w).heap[a]? = some p:=h1
  rw [qb3 h1' nc]
  exact ih (τ:=τ) (hr.setObj hb hk3 ho) hs ht
 | @choose β q c c' _ ih =>
  intro w W x w' τ hr hs ht
  simp only [Sem.run] at hs ⊢
  split at hs
  ·rename_i hq;rw [if_pos hq];exact ih 0 hr hs ht
  ·rename_i hq
   obtain ⟨y1,y2,y3⟩:=ih _ (w:={ w with drawn:=w.drawn + 1 }) (W:=W) (τ:=τ) ⟨hr.inj,hr.at_⟩ hs (fun i q h1 h2=>ht i q (Nat.le_of_succ_le h1) h2)
   have e:τ w.drawn q = w.tape w.drawn q:=ht _ _ (Nat.le_refl _) y2
   refine ⟨?_,Nat.le_of_succ_le y2,y3⟩
   rw [if_neg hq]
   show Sem.run Pa (c (q.cut (τ w.drawn q))) _ = _
   rw [e]
   exact y1
 | @chooseL β q c s' hfl hn _ ih =>
  intro w W x w' τ hr hs ht
  simp only [Sem.run] at hs ⊢
  split at hs
  ·rename_i hq;rw [if_pos hq];exact ih 0 hr hs ht
  ·rename_i hq
   obtain ⟨y1,y2,y3⟩:=ih _ (w:={ w with drawn:=w.drawn + 1 }) (W:=W) (τ:=τ) ⟨hr.inj,hr.at_⟩ hs (fun i q h1 h2=>ht i q (Nat.le_of_succ_le h1) h2)
   have e:τ w.drawn q = w.tape w.drawn q:=ht _ _ (Nat.le_refl _) y2
   refine ⟨?_,Nat.le_of_succ_le y2,y3⟩
   rw [if_neg hq]
   show Sem.run Pa (c (q.cut (τ w.drawn q))) _ = _
   rw [e]
   exact y1
 | @chooseR β q s c' hfl hn _ ih =>
  intro w W x w' τ hr hs ht
  exact ih 0 hr hs ht
 | @program β c c' _ ih =>
  intro w W x w' τ hr hs ht
  exact ih hr hs ht
 | @mark β m c c' hm _ ih =>
  intro w W x w' τ hr hs ht
  exact ih hr hs ht
 | inj _ ih =>
  intro w W x w' τ hr hs ht
  exact ih hr.inj (τ:=τ) hr hs ht
 | dead h =>
  intro w W x w' τ hr hs ht
  obtain ⟨y,w2,h1,h2⟩:=h w
  rw [h1] at hs;cases hs
end
end Go.Proofs.Ytcdclihinmdgiaa.sq
namespace Go.Proofs.Ytcdclihinmdgiaa.sq
open Go Go.Conc
set_option linter.unusedVariables false
variable [Cal]
section
variable {K:FuncId->Prop} {Pa Pr:Program} {Sp:Oper->Oper->Prop} {β:Bl} {fa fr:Frame} {csA csR:List Frame} {w W:World} {main main':Bool} {τ:Tape}
theorem qs9 (h:FrR Pa Sp β fa fr) (hm:fa.mode = .run) (hno:¬ q0s fa)
  {ga':Goroutine} {w':World} {es:Array Event} (hs:stepG Pa main (G fa csA) w = .go ga' w' es) (ht:Same τ w w') :
  stepG Pa main (G fa csA) (qj τ w) = .go ga' (qj τ w') es/\w.drawn<=w'.drawn/\w'.tape = w.tape:=by
 obtain ⟨fn,ts,ts',todo,todo',m,kd,rfl,rfl,ta,hkd,hk,hmm⟩:=h.parts
 simp only at hm
 subst hm
 rw [qeu Pa main ⟨fn,ts,todo,[],.run,.normal,none⟩ csA _ rfl] at hs ⊢
 clear h
 cases hk with
 | nil =>
  simp only [stepG.exec,if_pos] at hs ⊢
  cases hs
  exact ⟨rfl,Nat.le_refl _,rfl⟩
 | @cons it it' k k' hi hk =>
  cases hi with
  | inBlock id =>
   simp only [stepG.exec] at hs ⊢
   cases hs
   exact ⟨rfl,Nat.le_refl _,rfl⟩
  | inLoop hc =>
   simp only [stepG.exec] at hs ⊢
   cases hs
   exact ⟨rfl,Nat.le_refl _,rfl⟩
  | code hc =>
   cases hc with
   | @cond c a b a' b' hcc ha hb =>
    simp only [stepG.exec] at hs ⊢
    generalize Frame.eval ⟨fn,ts,.code (.cond c a b) :: k,[],.run,.normal,none⟩ c = va at hs ⊢
    cases va with
    | bool t =>
     simp only at hs ⊢
     cases hs
     exact ⟨rfl,Nat.le_refl _,rfl⟩
    | _=>simp only at hs;cases hs
   | exit id =>
    simp only [stepG.exec] at hs ⊢
    cases hx:exitTo id k with
    | none=>rw [hx] at hs;simp at hs
    | some q =>
     rw [hx] at hs
     simp only [Option.elim] at hs ⊢
     cases hs
     exact ⟨rfl,Nat.le_refl _,rfl⟩
   | ret =>
    simp only [stepG.exec,if_pos] at hs ⊢
    cases hs
    exact ⟨rfl,Nat.le_refl _,rfl⟩
   | refuse s =>
    simp only [stepG.exec] at hs
    cases hs
   | @region id ops ops' ho =>
    simp only [stepG.exec,Bool.not_false,if_true] at hs ⊢
    cases hs
    exact ⟨rfl,Nat.le_refl _,rfl⟩
   | @drawn id ops ho =>
    obtain ⟨n,e1,en⟩:=qbn Pa w fn id
    obtain ⟨n',e2,en'⟩:=qbn Pa (qj τ w) fn id
    simp only [stepG.exec,e1,Bool.not_true,Bool.false_eq_true,if_false] at hs
    cases hs
    have:n' = n:=by rw [en,en'];rw [show (qj τ w).tape (qj τ w).drawn _ = w.tape w.drawn _ from ht _ _ (Nat.le_refl _) (Nat.lt_succ_self _)]
    subst this
    refine ⟨?_,Nat.le_succ _,rfl⟩
    simp only [stepG.exec,e2,Bool.not_true,Bool.false_eq_true,if_false]
    rfl
   | _ =>
    simp only [stepG.exec] at hs ⊢
    cases hs
    exact ⟨rfl,Nat.le_refl _,rfl⟩
  | @inRegion ops ops' l ho =>
   cases l with
   | nil =>
    simp only [stepG.exec] at hs ⊢
    cases hs
    exact ⟨rfl,Nat.le_refl _,rfl⟩
   | cons i l =>
    have hn:((ops[i]?).map (Region.wanted · (yielded ops ts))).getD false = false:=by
     cases hoi:ops[i]? with
     | none=>rfl
     | some o =>
      simp only [Option.map_some,Option.getD_some]
      cases hw:Region.wanted o (yielded ops ts) with
      | false=>rfl
      | true=>exact absurd ⟨ops,i,l,k,o,rfl,hoi,hw⟩ hno
    simp only [stepG.exec,hn,Bool.false_eq_true,if_false] at hs ⊢
    cases hs
    exact ⟨rfl,Nat.le_refl _,rfl⟩
theorem qw {α:Type} {P:Program} {s:Sem α} {w:World} {r:Result α} (h:s.run P w = r):∃ es,s.runT P w #[] = (r,es):=by
 refine ⟨(s.runT P w #[]).2,?_⟩
 rw [<-h,<-Sem.runT_fst P s w #[]]
theorem qwh (S:je K Pa Pr Sp) (hr:HR β w W) (h:FrR Pa Sp β fa fr) (hm:fa.mode = .run) {ops:Array Oper} {i:Nat} {l:List Nat} {k:List Item} {o:Oper}
  (htd:fa.todo = .inRegion ops (i :: l) :: k) (ho:ops[i]? = some o) (hw:Region.wanted o (yielded ops fa.tmps) = true) (hok:bn Pa o.op = true)
  {ga':Goroutine} {w':World} {es:Array Event} (hs:stepG Pa main (G fa csA) w = .go ga' w' es) (hnp:∀ c,ga'.frame.mode ≠ .panicking c) (ht:Same τ w w') :
  (∃ es',stepG Pa main (G fa csA) (qj τ w) = .go ga' (qj τ w') es')/\w.drawn<=w'.drawn/\w'.tape = w.tape:=by
 have sr:=ko S.toAlike4 hok h.ρ
 rw [pq Pa main csA w hm h.round htd ho hw] at hs
 rw [pq Pa main csA _ hm h.round htd ho hw]
 have hke:fa.kind ≠ .early:=by rw [h.kind];decide
 have hcall:∀ d b r s k,fa.todo ≠ .call d b r s :: k:=by rw [htd];simp
 cases hrun:(execOp fa.eval o).run Pa w with
 | halt x w2 =>
  obtain ⟨esA,hra⟩:=qw hrun
  obtain ⟨c,hc⟩:=qev Pa csA _ hra (sr.mild hr hrun) hs
  exact absurd hc (hnp c)
 | ok n w2 =>
  obtain ⟨esA,hra⟩:=qw hrun
  obtain ⟨β',n',W',new,h1,h2,h3,h4⟩:=sr.sound (ES:=#[]) (W:={ W with tape:=fun i q=>w.tape (w.drawn + (i - W.drawn)) q }) (β:=β) ⟨hr.inj,hr.at_⟩ (.inl fun i q=>by simp) hrun
  have A:=jw Pa csA _ hke hra hcall
  have key:∀ (ga:Goroutine) (es:Array Event),stepG.apply Pa true fa csA none (execOp fa.eval o) w = .go ga w2 es->w2 = w'/\ga = ga':=by
   intro ga es e
   rw [e] at hs;cases hs;exact ⟨rfl,rfl⟩
  have fin:w2 = w'->∃ esB,(execOp fa.eval o).runT Pa (qj τ w) #[] = (.ok n (qj τ w'),esB)/\w.drawn<=w'.drawn/\w'.tape = w.tape:=by
   rintro rfl
   obtain ⟨l1,l2,l3⟩:=sr.local hr hrun ht
   obtain ⟨esB,hb⟩:=qw l1
   exact ⟨esB,hb,l2,l3⟩
  cases h3 with
  | value hv =>
   obtain ⟨e1,e2⟩:=key _ _ (A.1 _ rfl)
   obtain ⟨esB,b1,b2,b3⟩:=fin e1
   subst e2
   exact ⟨⟨_,(jw Pa csA _ hke b1 hcall).1 _ rfl⟩,b2,b3⟩
  | skip =>
   obtain ⟨e1,e2⟩:=key _ _ (A.2.1 rfl)
   obtain ⟨esB,b1,b2,b3⟩:=fin e1
   subst e2
   exact ⟨⟨_,(jw Pa csA _ hke b1 hcall).2.1 rfl⟩,b2,b3⟩
  | enter g hg hx =>
   obtain ⟨e1,e2⟩:=key _ _ (A.2.2 _ _ rfl)
   obtain ⟨esB,b1,b2,b3⟩:=fin e1
   subst e2
   exact ⟨⟨_,(jw Pa csA _ hke b1 hcall).2.2 _ _ rfl⟩,b2,b3⟩
theorem qta (S:je K Pa Pr Sp) (hr:HR β w W) (h:FrR Pa Sp β fa fr) (hm:fa.mode = .returning) (hfn:K fa.fn) {ca:Frame}
  {ga':Goroutine} {w':World} {es:Array Event} (hs:stepG Pa main (G fa (ca :: csA)) w = .go ga' w' es) (ht:Same τ w w') :
  (∃ es',stepG Pa main (G fa (ca :: csA)) (qj τ w) = .go ga' (qj τ w') es')/\w.drawn<=w'.drawn/\w'.tape = w.tape:=by
 obtain ⟨Fa,e1⟩:=S.some_ fa.fn hfn
 obtain ⟨Fr,e2,e4⟩:=S.text fa.fn Fa hfn e1
 have sr:=qdb (Pa:=Pa) (Pr:=Pr) S.toAlike e4 h.tmps
 cases hrun:(results Fa fa.tmps).run Pa w with
 | halt x w2 =>
  obtain ⟨esA,hra⟩:=qw hrun
  exact absurd hs (qgq Pa main _ hm h.nod e1 hra)
 | ok v w2 =>
  obtain ⟨esA,hra⟩:=qw hrun
  have A:=qa0 Pa main (ca :: csA) hm h.nod e1 hra
  simp only [doReturn,h.kind,GStep.after] at A
  rw [A] at hs
  cases hs
  obtain ⟨l1,l2,l3⟩:=sr.local hr hrun ht
  obtain ⟨esB,hb⟩:=qw l1
  have B:=qa0 Pa main (ca :: csA) hm h.nod e1 hb
  simp only [doReturn,h.kind,GStep.after] at B
  exact ⟨⟨_,B⟩,l2,l3⟩
end
end Go.Proofs.Ytcdclihinmdgiaa.sq
namespace Go.Proofs.Ytcdclihinmdgiaa.sq
open Go Go.Conc
set_option linter.unusedVariables false
variable [Cal]
section
variable {P:Program}
def qtb (P:Program):Nat->TypeId->Bool
 | 0,_=>false
 | n + 1,t=>match P.underlying t with
  | some (.int _)=>match P.info? t with
   | some { desc:=.named "sync.copyChecker" _,.. }=>false
   | _=>true
  | some (.struct fs)=>fs.all fun f=>decide (f.name ≠ "_") && qtb P n f.type
  | some (.array _ e)=>qtb P n e
  | _=>false
def q0t (P:Program) (g:TypeId->List Nat):TypeDesc->List Nat
 | .int _=>[0]
 | .struct fs=>fs.toList.flatMap fun f=>(g f.type).map (f.offset + ·)
 | .array len e=>(List.range len).flatMap fun i=>(g e).map (i * ((P.info? e).map (·.size)).getD 0 + ·)
 | _=>[]
def cov (P:Program):Nat->TypeId->List Nat
 | 0,_=>[]
 | n + 1,t=>((P.underlying t).map (q0t P (cov P n))).getD []
theorem qwi {n:Nat} {t:TypeId} {d:TypeDesc} (h:P.underlying t = some d):cov P (n + 1) t = q0t P (cov P n) d:=by
 unfold cov
 rw [h]
 rfl
def qok:TypeDesc->Bool
 | .struct _ | .array _ _=>true
 | _=>false
def qmt (xs:Array Value) (j:Nat):Prop:=∃ k a,xs[j]? = some (.int k a)
theorem qdw {t:TypeId} {w w':World} {n:Nat} (h:(sizeOf t).run P w = .ok n w'):w' = w/\(P.info? t).map (·.size) = some n:=by
 cases hi:P.info? t with
 | none=>simp [sizeOf,typeInfo,Sem.run_bind,program,Sem.run,hi,stuck] at h
 | some i=>simp [sizeOf,typeInfo,Sem.run_bind,program,Sem.run,hi] at h;exact ⟨h.2.symm,by simp [h.1]⟩
theorem qau {t:TypeId} {d:TypeDesc} (h:P.underlying t = some d) (w:World):(underlying t).run P w = .ok d w:=by
 simp [underlying,Sem.run_bind,program,Sem.run,h]
theorem qtc {t:TypeId} {d:TypeDesc} (h:P.underlying t = some d) (w:World):(isAgg t).run P w = .ok (qok d) w:=by
 unfold isAgg
 simp only [Sem.run_bind,Result.andThen_ok,Result.andThen_halt,qau h]
 cases d <;> rfl
theorem mh {t:TypeId} {k:IntKind} (hu:P.underlying t = some (.int k)) {xs:Array Value} {off:Nat} {w w':World} {v:Value} (h:(part t xs off).run P w = .ok v w'):w' = w/\xs[off]? = some v:=by
 unfold part at h
 simp only [Sem.run_bind,Result.andThen_ok,Result.andThen_halt,qtc hu,qok,Bool.false_eq_true,if_false] at h
 cases hx:xs[off]? with
 | none=>simp only [hx] at h;cases h
 | some u=>simp only [hx] at h;cases h;exact ⟨rfl,rfl⟩
theorem qol {t:TypeId} {d:TypeDesc} (hu:P.underlying t = some d) (hd:qok d = true) {xs:Array Value} {off:Nat} {w w':World} {v:Value}
  (h:(part t xs off).run P w = .ok v w'):w' = w/\∃ n,v = .agg (xs.extract off (off + n)):=by
 unfold part at h
 simp only [Sem.run_bind,Result.andThen_ok,Result.andThen_halt,qtc hu,hd,if_true] at h
 cases e3:(sizeOf t).run P w with
 | halt x w2=>simp only [e3,Result.andThen_ok,Result.andThen_halt] at h;cases h
 | ok n w2 =>
  obtain ⟨rfl,_⟩:=qdw e3
  simp only [e3,Result.andThen_ok,Result.andThen_halt] at h
  cases h
  exact ⟨rfl,n,rfl⟩
theorem qi7 {xs:Array Value} {a n j:Nat} (h:qmt (xs.extract a (a + n)) j):qmt xs (a + j):=by
 obtain ⟨k,b,h⟩:=h
 rw [Array.getElem?_extract] at h
 split at h
 ·exact ⟨k,b,h⟩
 ·cases h
theorem qmu {δ:Type} {Q:δ->Prop} {f:δ->Option Bool × Unit->Sem (ForInStep (Option Bool × Unit))}:∀ (l:List δ) {w w':World} {r:Option Bool × Unit},
  (∀ x ∈ l,∀ w w' r,(f x (none,())).run P w = .ok r w'->w' = w/\r = .yield (none,())/\Q x)->(forIn l (none,()) f:Sem _).run P w = .ok r w'->w' = w/\r = (none,())/\∀ x ∈ l,Q x
 | [],w,w',r,h,hs=>by
  simp only [List.forIn_nil] at hs
  cases hs
  exact ⟨rfl,rfl,by simp⟩
 | x :: l,w,w',r,h,hs=>by
  simp only [List.forIn_cons,Sem.run_bind,Result.andThen_ok,Result.andThen_halt] at hs
  cases e:(f x (none,())).run P w with
  | halt y w1=>simp only [e,Result.andThen_ok,Result.andThen_halt] at hs;cases hs
  | ok y w1 =>
   obtain ⟨rfl,rfl,hq⟩:=h x (by simp) _ _ _ e
   simp only [e,Result.andThen_ok,Result.andThen_halt] at hs
   obtain ⟨h1,h2,h3⟩:=qmu l (fun y hy=>h y (by simp [hy])) hs
   exact ⟨h1,h2,fun y hy=>by
    rcases List.mem_cons.1 hy with z | z
    ·subst z;exact hq
    ·exact h3 y z⟩
theorem qi8 {α:Type} {s:Sem α} (h:Dead P s) {w w':World} {a:α}:s.run P w ≠ .ok a w':=fun e=>by
 obtain ⟨x,w2,h1,_⟩:=h w
 rw [h1] at e;cases e
def Told (P:Program) (n:Nat) (t:TypeId) (x:Value):Prop :=
 ∀ u,P.underlying t = some u->(qok u = false->∃ k a,x = .int k a/\cov P n t = [0])/\(qok u = true->∃ xs,x = .agg xs/\∀ j ∈ cov P n t,qmt xs j)
theorem qtd {n d:Nat} {ft:TypeId} (ih:∀ {x:Value} {w w':World} {b:Bool},(Op.equalIn d ft x x).run P w = .ok b w'->b = true/\w' = w/\Told P n ft x) {u:TypeDesc} (hu:P.underlying ft = some u) (hint:qok u = false->∃ k,u = .int k)
  {xs:Array Value} {off:Nat} {w w':World} {r:ForInStep (Option Bool × Unit)}
  (h:(do let a <-part ft xs off;let c <-part ft xs off;let q <-Op.equalIn d ft a c;if (!q) = true then pure (ForInStep.done (some false,())) else pure (ForInStep.yield (none,())):Sem (ForInStep (Option Bool × Unit))).run P w = .ok r w') :
  w' = w/\r = .yield (none,())/\∀ j ∈ cov P n ft,qmt xs (off + j):=by
 simp only [Sem.run_bind] at h
 cases e:(part ft xs off).run P w with
 | halt x w1=>simp only [e,Result.andThen_halt] at h;cases h
 | ok v w1 =>
  have e1:w1 = w:=by
   cases hd:qok u with
   | true=>exact (qol hu hd e).1
   | false=>obtain ⟨k,rfl⟩:=hint hd;exact (mh hu e).1
  subst e1
  simp only [e,Result.andThen_ok] at h
  cases e2:(Op.equalIn d ft v v).run P w1 with
  | halt x w2=>simp only [e2,Result.andThen_halt] at h;cases h
  | ok q w2 =>
   obtain ⟨rfl,rfl,ht⟩:=ih e2
   simp only [e2,Result.andThen_ok,Bool.not_true,Bool.false_eq_true,if_false] at h
   cases h
   refine ⟨rfl,rfl,fun j hj=>?_⟩
   cases hd:qok u with
   | true =>
    obtain ⟨_,m,rfl⟩:=qol hu hd e
    obtain ⟨ys,e3,h3⟩:=(ht u hu).2 hd
    cases e3
    exact qi7 (h3 j hj)
   | false =>
    obtain ⟨k,a,rfl,h3⟩:=(ht u hu).1 hd
    rw [h3] at hj
    obtain rfl:j = 0:=by simpa using hj
    obtain ⟨kk,rfl⟩:=hint hd
    exact ⟨k,a,(mh hu e).2⟩
theorem qom {n:Nat} {t:TypeId} (h:qtb P n t = true):∃ u,P.underlying t = some u/\(qok u = false->∃ k,u = .int k):=by
 cases n with
 | zero=>simp [qtb] at h
 | succ n =>
  unfold qtb at h
  cases hu:P.underlying t with
  | none=>rw [hu] at h;cases h
  | some u =>
   rw [hu] at h
   cases u with
   | int k=>exact ⟨_,rfl,fun _=>⟨k,rfl⟩⟩
   | struct fs=>exact ⟨_,rfl,fun e=>by cases e⟩
   | array len e=>exact ⟨_,rfl,fun e=>by cases e⟩
   | _=>cases h
theorem qgr (hg:P.globals.size = 0):∀ (n d:Nat) (t:TypeId) {x:Value} {w w':World} {b:Bool},qtb P n t = true->(Op.equalIn d t x x).run P w = .ok b w'->b = true/\w' = w/\Told P n t x
 | 0,d,t,x,w,w',b,hi,h=>by simp [qtb] at hi
 | n + 1,0,t,x,w,w',b,hi,h=>by unfold Op.equalIn at h;cases h
 | n + 1,d + 1,t,x,w,w',b,hi,h=>by
  unfold Op.equalIn at h
  unfold qtb at hi
  cases hu:P.underlying t with
  | none=>rw [hu] at hi;cases hi
  | some u =>
  rw [hu] at hi
  simp only [Sem.run_bind,Result.andThen_ok,qau hu] at h
  have told:∀ {x:Value},((qok u = false->∃ k a,x = .int k a/\q0t P (cov P n) u = [0])/\(qok u = true->∃ xs,x = .agg xs/\∀ j ∈ q0t P (cov P n) u,qmt xs j))->Told P (n + 1) t x:=by
   intro x hx u' hu'
   rw [hu] at hu'
   cases hu'
   rw [qwi hu]
   exact hx
  cases u with
  | int kk =>
   simp only at hi
   cases x with
   | int k a =>
    simp only [if_true] at h
    cases h
    exact ⟨by simp,rfl,told ⟨fun _=>⟨k,a,rfl,rfl⟩,fun e=>by cases e⟩⟩
   | pointer o =>
    cases o with
    | none=>simp only at h;cases h
    | some p =>
     simp only at h
     refine absurd h (qi8 (qaa fun p=>qaa fun q=>qa8 ?_))
     rw [if_neg (by simp [hg])]
     refine qgk fun i hi'=>?_
     rw [hi'] at hi
     split
     ·rename_i hd
      obtain ⟨desc,s1,s2⟩:=i
      simp only at hd
      subst hd
      simp at hi
     ·exact qm _ (fun b e=>by cases e)
   | _=>simp only at h;cases h
  | struct fs =>
   cases x with
   | agg xs =>
    simp only at h hi
    simp only [Sem.run_bind,program,Sem.run,Result.andThen_ok,Result.andThen_halt] at h
    split at h
    ·exact absurd h (qi8 ((qm _ (fun b e=>by cases e)).bnd _))
    ·rw [<-Array.forIn_toList] at h
     simp only [Sem.run_bind] at h
     cases e:(forIn fs.toList (none,()) _:Sem (Option Bool × Unit)).run P w with
     | halt y w1=>rw [e] at h;cases h
     | ok r w1 =>
      rw [e] at h
      obtain ⟨rfl,rfl,hq⟩:=qmu (Q:=fun f:Field=>∀ j ∈ cov P n f.type,qmt xs (f.offset + j)) fs.toList (fun f hf w w' r hr=>by
       have h1:=Array.all_eq_true_iff_forall_mem.1 hi f (by simpa using hf)
       simp only [Bool.and_eq_true,decide_eq_true_eq] at h1
       obtain ⟨u,hu1,hu2⟩:=qom h1.2
       rw [if_pos h1.1] at hr
       exact qtd (fun hx=>qgr hg n d f.type h1.2 hx) hu1 hu2 hr) e
      simp only [Result.andThen_ok] at h
      cases h
      refine ⟨rfl,rfl,told ⟨fun e=>(by cases e),fun _=>⟨xs,rfl,fun j hj=>?_⟩⟩⟩
      simp only [q0t,List.mem_flatMap,List.mem_map] at hj
      obtain ⟨f,hf,i,hi2,rfl⟩:=hj
      exact hq f hf i hi2
   | _=>simp only at h;cases h
  | array len el =>
   cases x with
   | agg xs =>
    simp only at h hi
    simp only [Sem.run_bind] at h
    cases es:(sizeOf el).run P w with
    | halt y w1=>simp only [es,Result.andThen_halt] at h;cases h
    | ok m w1 =>
    obtain ⟨rfl,hm⟩:=qdw es
    simp only [es,Result.andThen_ok,Std.Legacy.Range.forIn_eq_forIn_range'] at h
    obtain ⟨u,hu1,hu2⟩:=qom hi
    cases e:(forIn (List.range' 0 (Std.Legacy.Range.size [:len]) 1) (none,()) _:Sem (Option Bool × Unit)).run P w1 with
    | halt y w1=>rw [e] at h;cases h
    | ok r w2 =>
     rw [e] at h
     obtain ⟨rfl,rfl,hq⟩:=qmu (Q:=fun i:Nat=>∀ j ∈ cov P n el,qmt xs (i * m + j)) _ (fun f hf w w' r hr=>qtd (fun hx=>qgr hg n d el hi hx) hu1 hu2 hr) e
     simp only [Result.andThen_ok] at h
     cases h
     refine ⟨rfl,rfl,told ⟨fun e=>(by cases e),fun _=>⟨xs,rfl,fun j hj=>?_⟩⟩⟩
     simp only [q0t,List.mem_flatMap,List.mem_map,List.mem_range,hm,Option.getD_some] at hj
     obtain ⟨f,hf,i,hi2,rfl⟩:=hj
     exact hq f (by simp [List.mem_range',Std.Legacy.Range.size];exact hf) i hi2
   | _=>simp only at h;cases h
  | _=>simp only at hi;cases hi
end
end Go.Proofs.Ytcdclihinmdgiaa.sq
namespace Go.Proofs.Ytcdclihinmdgiaa.sq
open Go Go.Conc
set_option linter.unusedVariables false
variable [Cal]
section
variable {P:Program}
theorem qew {ts el:TypeId} {m:Nat} (hu:P.underlying ts = some (.slice el)) (hm:(P.info? el).map (·.size) = some m) {x v:Value} {w w':World}
  (h:(Instr.buildSlice ts 1 #[(0,x)]).run P w = .ok v w'):x.cells.size = m:=by
 unfold Instr.buildSlice at h
 have hs:(sizeOf el).run P w = .ok m w:=by
  cases hi:P.info? el with
  | none=>rw [hi] at hm;cases hm
  | some i=>rw [hi] at hm;cases hm;simp [sizeOf,typeInfo,Sem.run_bind,program,Sem.run,hi]
 simp only [Sem.run_bind,qau hu,Result.andThen_ok,hs,Nat.one_mul] at h
 split at h
 ·exact absurd h (qi8 ((qm _ (fun b e=>by cases e)).bnd _))
 ·by_cases hc:x.cells.size = m
  ·exact hc
  ·exfalso
   have hfill:∀ z:Array Value,Instr.fill (fun i=>some (i * m,m)) z [(0,x)] = none:=by
    intro z
    unfold Instr.fill
    simp [hc]
   simp only [hfill] at h
   split at h
   ·simp [Sem.run_bind,stuck,Sem.run] at h
   ·simp only [Sem.run_bind] at h
    cases e:(zeroValue el).run P w with
    | halt y w1=>rw [e] at h;simp at h
    | ok z w1=>rw [e] at h;simp [stuck,Sem.run] at h
theorem qk4 {n d:Nat} {t ts:TypeId} {m:Nat} (hg:P.globals.size = 0) (hi:qtb P n t = true) (hu:P.underlying ts = some (.slice t)) (hm:(P.info? t).map (·.size) = some m) {u:TypeDesc} (hut:P.underlying t = some u) (hd:qok u = true)
  (hcov:(List.range m).all (fun j=>(cov P n t).contains j) = true) {x v:Value} {b:Bool} {w w' w2 w2':World} (h1:(Op.equalIn d t x x).run P w = .ok b w') (h2:(Instr.buildSlice ts 1 #[(0,x)]).run P w2 = .ok v w2'):clo 20 x = true:=by
 obtain ⟨_,_,ht⟩:=qgr hg n d t hi h1
 obtain ⟨xs,rfl,hx⟩:=(ht u hut).2 hd
 have hs:xs.size = m:=qew hu hm h2
 unfold clo
 simp only
 rw [Array.all_eq_true_iff_forall_mem]
 intro v hv
 obtain ⟨i,hlt,rfl⟩:=Array.mem_iff_getElem.1 hv
 have hc:=List.all_eq_true.1 hcov i (by simp;omega)
 obtain ⟨k,a,e⟩:=hx i (by simpa using hc)
 rw [Array.getElem?_eq_getElem hlt] at e
 rw [Option.some.inj e]
 rfl
end
end Go.Proofs.Ytcdclihinmdgiaa.sq
namespace Go.Proofs.Ytcdclihinmdgiaa.sq
open Go Go.Conc
set_option linter.unusedVariables false
variable [Cal]
def base (P:Program):Frame:={ fn:=P.funcs.size,tmps:=#[undef],todo:=[.call { target:=.nil,args:=#[] } false "fmt's door: none" #[]],defers:=[],mode:=.run,kind:=.normal }
def qfb (P:Program) (R:Value->World->Prop) (m:Machine):Prop:=∃ n fr w' v,runN P n m = .next (lone fr [base P] w')/\fr.leaving P w' (.returned v)/\R v w'
def AtEnd (P:Program) (m:Machine):Prop:=∃ fr w,m = lone fr [base P] w/\fr.mode = .returning
section
variable {P:Program} {R:Value->World->Prop}
theorem qfb.next {m:Machine} (h:qfb P R m) (hn:¬ AtEnd P m):∃ m',step P m = .next m'/\qfb P R m':=by
 obtain ⟨n,fr,w',v,h1,h2,h3⟩:=h
 cases n with
 | zero =>
  simp only [runN] at h1
  cases h1
  exact absurd ⟨fr,w',rfl,h2.1⟩ hn
 | succ n =>
  simp only [runN] at h1
  cases e:step P m with
  | next m'=>rw [e] at h1;exact ⟨m',rfl,n,fr,w',v,h1,h2,h3⟩
  | ended o w=>rw [e] at h1;cases h1
theorem qfb.to {m m':Machine} (h:qfb P R m) (hn:¬ AtEnd P m) (hs:step P m = .next m'):qfb P R m':=by
 obtain ⟨m2,h1,h2⟩:=h.next hn
 rw [hs] at h1;cases h1;exact h2
theorem qfb.qce {m:Machine} (h:qfb P R m) (hn:¬ AtEnd P m) {o:Outcome} {w:World} (hs:step P m = .ended o w):False:=by
 obtain ⟨m2,h1,h2⟩:=h.next hn
 rw [hs] at h1;cases h1
theorem qfl {f f':Frame} {cs cs':List Frame} {w w':World} (h:lone f cs w = lone f' cs' w'):f = f'/\cs = cs'/\w = w':=by
 simp only [lone,Machine.mk.injEq] at h
 obtain ⟨h1,h2,_⟩:=h
 have:=congrArg (fun a:Array Goroutine=>a[0]?) h2
 simp at this
 exact ⟨this.1,this.2,h1⟩
theorem qex {f:Frame} {cs:List Frame} {w:World} (h:f.mode ≠ .returning\/cs ≠ [base P]):¬ AtEnd P (lone f cs w):=by
 rintro ⟨fr,w2,e,hm⟩
 obtain ⟨rfl,rfl,rfl⟩:=qfl e
 rcases h with h | h
 ·exact h hm
 ·exact h rfl
theorem jq {f f':Frame} {cs cs':List Frame} {w w':World} {es:Array Event} (h:stepG P true (G f cs) w = .go (G f' cs') w' es):step P (lone f cs w) = .next (lone f' cs' w'):=by
 refine step_lone_go ?_
 have:stepG P true { frame:=f,callers:=cs,status:=.running,dying:=none } w = .go (G f' cs') w' es:=h
 rw [this]
 rfl
theorem vk {f:Frame} {cs:List Frame} {w w':World} {o:Outcome} {es:Array Event} (h:stepG P true (G f cs) w = .ended o w' es):step P (lone f cs w) = .ended o w':=by
 refine step_lone_ended ?_
 have:stepG P true { frame:=f,callers:=cs,status:=.running,dying:=none } w = .ended o w' es:=h
 rw [this]
 rfl
theorem qeb:∀ (cs:List Frame) {f:Frame} {chain:List PanicEntry} {w:World},f.mode = .panicking chain->f.defers = []->(∀ c ∈ cs,c.defers = [])->¬ qfb P R (lone f (cs ++ [base P]) w)
 | [],f,chain,w,hm,hd,hc,h=>by
  have ne:¬ AtEnd P (lone f ([] ++ [base P]) w):=qex (.inl (by rw [hm];simp))
  by_cases hcat:f.catches P = true
  ·refine h.qce ne (vk (es:=#[]) (o:=.unsupported (.noEntry "a panic or Goexit out of a method that fmt calls behind a cut's door") (f.pos P)) (w':=w) ?_)
   simp only [stepG,G,hm,unwind,hd,hcat,if_true]
  ·have h1:=h.to ne (jq (es:=#[]) (f':=(base P).raise chain) (cs':=[]) (w':=w) (by simp only [stepG,G,hm,unwind,hd,hcat,List.nil_append];rfl))
   obtain ⟨c2,hc2⟩:=raise_mode (base P) chain
   have hc3:((base P).raise chain).catches P = true:=by
    simp [Frame.catches,Frame.raise,base]
   refine h1.qce (qex (.inl (by rw [hc2];simp))) (vk (es:=#[]) (o:=.unsupported (.noEntry "a panic or Goexit out of a method that fmt calls behind a cut's door") (((base P).raise chain).pos P)) (w':=w) ?_)
   have hd2:((base P).raise chain).defers = []:=rfl
   simp only [stepG,G,hc2,unwind,hd2,hc3,if_true]
 | c :: cs,f,chain,w,hm,hd,hc,h=>by
  have ne:¬ AtEnd P (lone f (c :: cs ++ [base P]) w):=qex (.inl (by rw [hm];simp))
  by_cases hcat:f.catches P = true
  ·refine h.qce ne (vk (es:=#[]) (o:=.unsupported (.noEntry "a panic or Goexit out of a method that fmt calls behind a cut's door") (f.pos P)) (w':=w) ?_)
   simp only [stepG,G,hm,unwind,hd,hcat,if_true]
  ·have h1:=h.to ne (jq (es:=#[]) (f':=c.raise chain) (cs':=cs ++ [base P]) (w':=w) (by simp only [stepG,G,hm,unwind,hd,hcat,List.cons_append];rfl))
   obtain ⟨c2,hc2⟩:=raise_mode c chain
   refine qeb cs hc2 ?_ (fun x hx=>hc x (by simp [hx])) h1
   have:(c.raise chain).defers = c.defers:=by unfold Frame.raise;split <;> rfl
   rw [this]
   exact hc c (by simp)
end
end Go.Proofs.Ytcdclihinmdgiaa.sq
namespace Go.Proofs.Ytcdclihinmdgiaa.sq
open Go Go.Conc
set_option linter.unusedVariables false
variable [Cal]
structure St where
 f:Frame
 cs:List Frame
 w:World
def St.on (τ:Tape) (s:St):St:={ s with w:=qj τ s.w }
structure Walk (T:St->St->Prop) (Rn:Nat->St->Prop) (En:St->Prop) (Inv:St->Prop) (Q:St->Prop):Prop where
 loc:∀ {s s':St},Inv s->T s s'->∀ τ,Same τ s.w s'.w->T (s.on τ) (s'.on τ)
 mono:∀ {s s':St},Inv s->T s s'->s.w.drawn<=s'.w.drawn/\s'.w.tape = s.w.tape
 fwd:∀ {s s':St},T s s'->∀ n,Rn n s->∃ n',n' < n/\Rn n' s'
 bwd:∀ {s s':St},T s s'->∀ n,Rn n s'->∃ n',Rn n' s
 prog:∀ {s:St} {n:Nat},Inv s->Rn n s->¬ En s->∃ s',T s s'
 inv:∀ {s s':St},Inv s->T s s'->Inv s'
 tape:∀ {s:St} (τ:Tape),Inv s->Inv (s.on τ)
 endT:∀ {s:St} {n:Nat} (τ:Tape),Inv s->En s->Rn n s->∃ n',Rn n' (s.on τ)
 en:∀ {s:St} (τ:Tape),En (s.on τ) ↔ En s
 leaf:∀ {s:St} {n:Nat},Inv s->En s->Rn n s->Q s
inductive qcf (T:St->St->Prop) (En Q:St->Prop):St->Prop
 | mk (s:St) (h0:En s->Q s) (h1:¬ En s->∀ τ,∃ s',T (s.on τ) s') (h2:∀ τ s',T (s.on τ) s'->qcf T En Q s'):qcf T En Q s
section
variable {T:St->St->Prop} {Rn:Nat->St->Prop} {En:St->Prop} {Inv Q:St->Prop}
theorem qh0 {s:St} {τ:Tape} (h:s.w.tape = τ):s.on τ = s:=by subst h;rfl
theorem Walk.rest (W:Walk T Rn En Inv Q):∀ (n:Nat) {s:St} {τ:Tape},Inv s->Rn n s->(∀ i q,s.w.drawn<=i->τ i q = s.w.tape i q)->∃ n',Rn n' (s.on τ):=by
 intro n
 induction n using Nat.strongRecOn with
 | ind n ih =>
  intro s τ hi hr ht
  by_cases he:En s
  ·exact W.endT τ hi he hr
  ·obtain ⟨s',h1⟩:=W.prog hi hr he
   obtain ⟨m1,m2⟩:=W.mono hi h1
   obtain ⟨n',hn,hr'⟩:=W.fwd h1 n hr
   obtain ⟨n2,h2⟩:=ih n' hn (τ:=τ) (W.inv hi h1) hr' (fun i q hi=>by rw [m2];exact ht i q (Nat.le_trans m1 hi))
   exact W.bwd (W.loc hi h1 τ fun i q h3 h4=>ht i q h3) n2 h2
def All (Rn:Nat->St->Prop) (s:St):Prop:=∀ τ,∃ n,Rn n (s.on τ)
theorem Walk.all (W:Walk T Rn En Inv Q) {s s':St} {τ:Tape} (hi:Inv s) (ha:All Rn s) (h:T (s.on τ) s'):Inv s'/\All Rn s':=by
 have hi':=W.inv (W.tape τ hi) h
 refine ⟨hi',fun τ'=>?_⟩
 obtain ⟨m1,m2⟩:=W.mono (W.tape τ hi) h
 have m2':s'.w.tape = τ:=m2
 let σ:Tape:=fun i q=>if i < s'.w.drawn then τ i q else τ' i q
 have h3:=W.loc (W.tape τ hi) h σ (fun i q _ h4=>by simp only [σ,if_pos h4];rfl)
 obtain ⟨n,hn⟩:=ha σ
 obtain ⟨n',_,hn'⟩:=W.fwd h3 n hn
 obtain ⟨n2,h5⟩:=W.rest n' (τ:=τ') (W.tape σ hi') hn' (fun i q h4=>by
  have:¬ i < s'.w.drawn:=Nat.not_lt.2 h4
  show τ' i q = σ i q
  simp only [σ,if_neg this])
 exact ⟨n2,h5⟩
theorem Walk.fine (W:Walk T Rn En Inv Q) {s:St} (hi:Inv s) (ha:All Rn s):qcf T En Q s:=by
 apply Classical.byContradiction
 intro hnf
 have next:∀ p:{ s:St // Inv s/\All Rn s/\¬ qcf T En Q s },∃ (τ:Tape) (q:{ s:St // Inv s/\All Rn s/\¬ qcf T En Q s }),T (p.1.on τ) q.1:=by
  rintro ⟨s,hi,ha,hnf⟩
  apply Classical.byContradiction
  intro hno
  refine hnf (.mk s (fun he=>?_) (fun he τ=>?_) fun τ s' h=>?_)
  ·obtain ⟨n,hn⟩:=ha s.w.tape
   exact W.leaf hi he hn
  ·obtain ⟨n,hn⟩:=ha τ
   exact W.prog (W.tape τ hi) hn (fun h=>he ((W.en τ).1 h))
  ·apply Classical.byContradiction
   intro hf
   obtain ⟨hi',ha'⟩:=W.all hi ha h
   exact hno ⟨τ,⟨s',hi',ha',hf⟩,h⟩
 let tp:{ s:St // Inv s/\All Rn s/\¬ qcf T En Q s }->Tape:=fun p=>Classical.choose (next p)
 let nx:{ s:St // Inv s/\All Rn s/\¬ qcf T En Q s }->{ s:St // Inv s/\All Rn s/\¬ qcf T En Q s }:=fun p=>Classical.choose (Classical.choose_spec (next p))
 have hnx:∀ p,T (p.1.on (tp p)) (nx p).1:=fun p=>Classical.choose_spec (Classical.choose_spec (next p))
 let sq:Nat->{ s:St // Inv s/\All Rn s/\¬ qcf T En Q s }:=fun i=>Nat.rec ⟨s,hi,ha,hnf⟩ (fun _ p=>nx p) i
 have hsq:∀ i,T ((sq i).1.on (tp (sq i))) (sq (i + 1)).1:=fun i=>hnx (sq i)
 let d:Nat->Nat:=fun i=>(sq i).1.w.drawn
 have hd:∀ i,d i<=d (i + 1):=fun i=>(W.mono (W.tape _ (sq i).2.1) (hsq i)).1
 have hdm:∀ i k,d i<=d (i + k):=by
  intro i k
  induction k with
  | zero=>exact Nat.le_refl _
  | succ k ih=>exact Nat.le_trans ih (hd (i + k))
 let pick:Nat->Nat->Prop:=fun j i=>d i<=j/\j < d (i + 1)
 have uniq:∀ j i i',pick j i->pick j i'->i = i':=by
  intro j i i' h h'
  rcases Nat.lt_trichotomy i i' with z | z | z
  ·have:=hdm (i + 1) (i' - (i + 1))
   rw [show i + 1 + (i' - (i + 1)) = i' by omega] at this
   have h1:=h.2;have h2:=h'.1
   omega
  ·exact z
  ·have:=hdm (i' + 1) (i - (i' + 1))
   rw [show i' + 1 + (i - (i' + 1)) = i by omega] at this
   have h1:=h'.2;have h2:=h.1
   omega
 let τ:Tape:=fun j q=>open Classical in if h:∃ i,pick j i then tp (sq (Classical.choose h)) j q else 0
 have hτ:∀ i j q,pick j i->τ j q = tp (sq i) j q:=by
  intro i j q h
  have hex:∃ i,pick j i:=⟨i,h⟩
  have:Classical.choose hex = i:=uniq j _ _ (Classical.choose_spec hex) h
  simp only [τ,dif_pos hex,this]
 have run:∀ i,T ((sq i).1.on τ) ((sq (i + 1)).1.on τ):=fun i=>W.loc (W.tape _ (sq i).2.1) (hsq i) τ fun j q h1 h2=>hτ i j q ⟨h1,h2⟩
 obtain ⟨n,hn⟩:=ha τ
 have desc:∀ n i,¬ Rn n ((sq i).1.on τ):=by
  intro n
  induction n using Nat.strongRecOn with
  | ind n ih =>
   intro i h
   obtain ⟨n',h1,h2⟩:=W.fwd (run i) n h
   exact ih n' h1 (i + 1) h2
 exact desc n 0 hn
end
end Go.Proofs.Ytcdclihinmdgiaa.sq
namespace Go.Proofs.Ytcdclihinmdgiaa.sq
open Go Go.Conc
set_option linter.unusedVariables false
variable [Cal]
section
variable {K:FuncId->Prop} {Pa Pr:Program} {Sp:Oper->Oper->Prop} {β:Bl} {fa fr:Frame} {csA csR:List Frame} {w W:World} {main main':Bool} {τ:Tape}
theorem qte (h:FrR Pa Sp β fa fr) (hm:fa.mode = .run) (hno:¬ q0s fa) :
  (∃ f' w' es,stepG Pa main (G fa csA) w = .go (G f' csA) w' es/\(f'.mode = .run\/f'.mode = .returning))\/∃ o w' es,stepG Pa main (G fa csA) w = .ended o w' es:=by
 obtain ⟨fn,ts,ts',todo,todo',m,kd,rfl,rfl,ta,hkd,hk,hmm⟩:=h.parts
 simp only at hm
 subst hm
 rw [qeu Pa main ⟨fn,ts,todo,[],.run,.normal,none⟩ csA _ rfl]
 clear h
 cases hk with
 | nil =>
  simp only [stepG.exec,if_pos]
  exact .inl ⟨_,_,_,rfl,.inr rfl⟩
 | @cons it it' k k' hi hk =>
  cases hi with
  | inBlock id=>simp only [stepG.exec];exact .inl ⟨_,_,_,rfl,.inl rfl⟩
  | inLoop hc=>simp only [stepG.exec];exact .inl ⟨_,_,_,rfl,.inl rfl⟩
  | code hc =>
   cases hc with
   | @cond c a b a' b' hcc ha hb =>
    simp only [stepG.exec]
    generalize Frame.eval ⟨fn,ts,.code (.cond c a b) :: k,[],.run,.normal,none⟩ c = va
    cases va with
    | bool t=>exact .inl ⟨_,_,_,rfl,.inl rfl⟩
    | _=>exact .inr ⟨_,_,_,rfl⟩
   | exit id =>
    simp only [stepG.exec]
    cases hx:exitTo id k with
    | none=>right;simp
    | some q=>exact .inl ⟨_,_,_,rfl,.inl rfl⟩
   | ret=>simp only [stepG.exec,if_pos];exact .inl ⟨_,_,_,rfl,.inr rfl⟩
   | refuse s=>simp only [stepG.exec];exact .inr ⟨_,_,_,rfl⟩
   | @region id ops ops' ho=>simp only [stepG.exec,Bool.not_false,if_true];exact .inl ⟨_,_,_,rfl,.inl rfl⟩
   | @drawn id ops ho =>
    obtain ⟨n,e1,en⟩:=qbn Pa w fn id
    simp only [stepG.exec,e1,Bool.not_true,Bool.false_eq_true,if_false]
    exact .inl ⟨_,_,_,rfl,.inl rfl⟩
   | _=>simp only [stepG.exec];exact .inl ⟨_,_,_,rfl,.inl rfl⟩
  | @inRegion ops ops' l ho =>
   cases l with
   | nil=>simp only [stepG.exec];exact .inl ⟨_,_,_,rfl,.inl rfl⟩
   | cons i l =>
    have hn:((ops[i]?).map (Region.wanted · (yielded ops ts))).getD false = false:=by
     cases hoi:ops[i]? with
     | none=>rfl
     | some o =>
      simp only [Option.map_some,Option.getD_some]
      cases hw:Region.wanted o (yielded ops ts) with
      | false=>rfl
      | true=>exact absurd ⟨ops,i,l,k,o,rfl,hoi,hw⟩ hno
    simp only [stepG.exec,hn,Bool.false_eq_true,if_false]
    exact .inl ⟨_,_,_,rfl,.inl rfl⟩
theorem qon (S:je K Pa Pr Sp) (hr:HR β w W) (h:FrR Pa Sp β fa fr) (hm:fa.mode = .run) {ops:Array Oper} {i:Nat} {l:List Nat} {k:List Item} {o:Oper}
  (htd:fa.todo = .inRegion ops (i :: l) :: k) (ho:ops[i]? = some o) (hw:Region.wanted o (yielded ops fa.tmps) = true) (hok:bn Pa o.op = true) :
  (∃ v w' es,stepG Pa main (G fa csA) w = .go (G (fa.finish v) csA) w' es)\/(∃ g xs w' es,Cal.ok g = true/\stepG Pa main (G fa csA) w = .go (G (Frame.enter Pa g xs .normal) (fa :: csA)) w' es) ∨
  (∃ c vs w' es,c = fa.raise vs/\stepG Pa main (G fa csA) w = .go (G c csA) w' es)\/∃ x w' es,stepG Pa main (G fa csA) w = .ended x w' es:=by
 have sr:=ko S.toAlike4 hok h.ρ
 rw [pq Pa main csA w hm h.round htd ho hw]
 have hke:fa.kind ≠ .early:=by rw [h.kind];decide
 have hcall:∀ d b r s k,fa.todo ≠ .call d b r s :: k:=by rw [htd];simp
 cases hrun:(execOp fa.eval o).run Pa w with
 | halt x w2 =>
  obtain ⟨esA,hra⟩:=qw hrun
  have hx:=sr.mild hr hrun
  cases x with
  | panic v =>
   right;right;left
   simp only [stepG.apply,if_true,hra,GStep.after]
   exact ⟨_,_,_,_,rfl,rfl⟩
  | stuck s =>
   right;right;right
   simp only [stepG.apply,if_true,hra,GStep.after]
   exact ⟨_,_,_,rfl⟩
  | unsupported u =>
   right;right;right
   cases u with
   | initOrder g=>cases hx
   | _ =>
    simp only [stepG.apply,if_true,hra,GStep.after]
    exact ⟨_,_,_,rfl⟩
  | _=>cases hx
 | ok n w2 =>
  obtain ⟨esA,hra⟩:=qw hrun
  obtain ⟨β',n',W',new,h1,h2,h3,h4⟩:=sr.sound (ES:=#[]) (W:={ W with tape:=fun i q=>w.tape (w.drawn + (i - W.drawn)) q }) (β:=β) ⟨hr.inj,hr.at_⟩ (.inl fun i q=>by simp) hrun
  have A:=jw Pa csA _ hke hra hcall
  cases h3 with
  | value hv=>exact .inl ⟨_,_,_,A.1 _ rfl⟩
  | skip=>exact .inl ⟨_,_,_,A.2.1 rfl⟩
  | enter g hg hx=>exact .inr (.inl ⟨g,_,_,_,hg,A.2.2 _ _ rfl⟩)
theorem qcr (S:je K Pa Pr Sp) (h:FrR Pa Sp β fa fr) (hm:fa.mode = .returning) (hfn:K fa.fn) {ca:Frame} :
  (∃ v w' es,stepG Pa main (G fa (ca :: csA)) w = .go (G (ca.finish v) csA) w' es)\/∃ x w' es,stepG Pa main (G fa (ca :: csA)) w = .ended x w' es:=by
 obtain ⟨Fa,e1⟩:=S.some_ fa.fn hfn
 cases hrun:(results Fa fa.tmps).run Pa w with
 | halt x w2 =>
  obtain ⟨esA,hra⟩:=qw hrun
  right
  simp only [stepG,G,hm,unwind,h.nod,e1,hra]
  cases x <;> (simp only [GStep.after];exact ⟨_,_,_,rfl⟩)
 | ok v w2 =>
  obtain ⟨esA,hra⟩:=qw hrun
  have A:=qa0 Pa main (ca :: csA) hm h.nod e1 hra
  simp only [doReturn,h.kind,GStep.after] at A
  exact .inl ⟨v,w2,_,A⟩
end
end Go.Proofs.Ytcdclihinmdgiaa.sq
namespace Go.Proofs.Ytcdclihinmdgiaa.sq
open Go Go.Conc
set_option linter.unusedVariables false
variable [Cal]
def qt5 (P:Program) (R:Value->World->Prop) (n:Nat) (m:Machine):Prop:=∃ fr w' v,runN P n m = .next (lone fr [base P] w')/\fr.leaving P w' (.returned v)/\R v w'
def qcs (P:Program):Nat->Machine->Machine->Prop
 | 0,m,m'=>m = m'
 | k + 1,m,m'=>¬ AtEnd P m/\∃ m1,step P m = .next m1/\qcs P k m1 m'
def opAt (f:Frame):Option Oper:=match f.mode,f.todo with
 | .run,.inRegion ops (i :: _) :: _=>(ops[i]?).filter fun o=>Region.wanted o (yielded ops f.tmps)
 | _,_=>none
section
variable {P:Program} {R:Value->World->Prop}
theorem qt5.ret {n:Nat} {m:Machine} (h:qt5 P R n m):qfb P R m:=let ⟨fr,w',v,h⟩:=h;⟨n,fr,w',v,h⟩
theorem qcs.fwd:∀ {k:Nat} {m m':Machine},qcs P (k + 1) m m'->∀ {n:Nat},qt5 P R n m->∃ n',n' < n/\qt5 P R n' m'
 | k,m,m',⟨he,m1,h1,h2⟩,n,⟨fr,w',v,a,b,c⟩=>by
  cases n with
  | zero =>
   simp only [runN] at a
   cases a
   exact absurd ⟨fr,w',rfl,b.1⟩ he
  | succ n =>
   simp only [runN,h1] at a
   cases k with
   | zero=>cases h2;exact ⟨n,Nat.lt_succ_self n,fr,w',v,a,b,c⟩
   | succ k =>
    obtain ⟨n',h3,h4⟩:=qcs.fwd h2 ⟨fr,w',v,a,b,c⟩
    exact ⟨n',Nat.lt_succ_of_lt h3,h4⟩
theorem qcs.bwd:∀ {k:Nat} {m m':Machine},qcs P k m m'->∀ {n:Nat},qt5 P R n m'->∃ n',qt5 P R n' m
 | 0,m,m',h,n,hn=>by cases h;exact ⟨n,hn⟩
 | k + 1,m,m',⟨he,m1,h1,h2⟩,n,hn=>by
  obtain ⟨n',fr,w',v,a,b,c⟩:=qcs.bwd h2 hn
  exact ⟨n' + 1,fr,w',v,by simp only [runN,h1];exact a,b,c⟩
theorem zk {f:Frame} {o:Oper} (h:opAt f = some o):f.mode = .run/\∃ ops i l k,f.todo = .inRegion ops (i :: l) :: k/\ops[i]? = some o/\Region.wanted o (yielded ops f.tmps) = true:=by
 unfold opAt at h
 split at h
 ·rename_i ops i l k hm ht
  rw [Option.filter_eq_some_iff] at h
  exact ⟨hm,ops,i,l,k,ht,h.1,h.2⟩
 ·cases h
theorem qaj {f:Frame} (hm:f.mode = .run) (h:opAt f = none):¬ q0s f:=by
 rintro ⟨ops,i,l,k,o,ht,ho,hw⟩
 unfold opAt at h
 rw [hm,ht] at h
 simp only [ho,Option.filter_some,hw,if_true] at h
 cases h
theorem jf (f:Frame) (v:Value):(f.finish v).fn = f.fn:=by unfold Frame.finish;split <;> rfl
theorem uz (f:Frame) (v:Value):(f.finish v).mode = f.mode:=by unfold Frame.finish;split <;> rfl
end
def oNo (op:Op):Oper:={ dst:=none,op,type:=0,pos:="",after:=#[],guard:=none }
def qdk:Array Oper:=#[oNo (.call { callee:=.value (.func wh),args:=#[.tmp 1,.tmp 0],argTypes:=#[] })]
def gk (c g:Value):Frame:=⟨nfn + 1,#[c,g,c,.bool true,.bool false],[.inRegion qdk [0]],[],.run,.normal,none⟩
def St.m (P:Program) (s:St):Machine:=lone s.f (s.cs ++ [base P]) s.w
def qmv (P:Program) (t:TypeId):Prop:=∃ d el i,P.underlying t = some (.chan d el)/\P.info? el = some i
def qcg (P:Program) (t:TypeId) (z:Value):Prop:=∃ d el i,P.underlying t = some (.chan d el)/\P.info? el = some i/\i.zero = some z
inductive SpK (P:Program):St->St->Prop
 | make {f:Frame} {cs:List Frame} {w:World} {o:Oper} {t:TypeId} {x:Operand} (n:Nat) (h:opAt f = some o) (ho:o.op = .makeChan t x) (hty:qmv P t):SpK P ⟨f,cs,w⟩ ⟨f.finish (.chan (some w.heap.size)),cs,{ w with heap:=w.heap.push (.chan n #[] false 0 0 false) }⟩
 | shut {f:Frame} {cs:List Frame} {w:World} {o:Oper} {c:Call} {x:Operand} {r cap:Nat} {buf:Array Value} {s e:Nat} {tm:Bool} (h:opAt f = some o) (ho:o.op = .call c) (hc:c.callee = .builtin .close) (hx:c.args = #[x])
   (hv:f.eval x = .chan (some r)) (hr:w.heap[r]? = some (.chan cap buf false s e tm)):SpK P ⟨f,cs,w⟩ ⟨f.finish undef,cs,{ w with heap:=w.heap.setIfInBounds r (.chan cap buf true s e tm) }⟩
 | go {f:Frame} {cs:List Frame} {w:World} {o:Oper} {c:Call} {x y z:Operand} {g:Value} {r cap:Nat} {buf:Array Value} {s e:Nat} {tm:Bool} {cells:Array Value} {el:TypeId} (h:opAt f = some o) (ho:o.op = .call c) (hc:c.callee = .value (.func (nfn + 1)))
   (hx:c.args = #[x,y,z,.const (.bool true),.const (.bool false)]) (hv:f.eval x = .chan (some r)) (hy:f.eval y = g) (hz:f.eval z = .chan (some r)) (hclo:clo 20 g = true) (hr:w.heap[r]? = some (.chan cap buf false s e tm)) :
   SpK P ⟨f,cs,w⟩ ⟨gk (.chan (some r)) g,f :: cs,{ w with heap:=(w.heap.push (.cells cells el)).setIfInBounds r (.chan cap ((buf.push (.bool true)).extract 1 (buf.size + 1)) false (s + 1) (e + 1) tm) }⟩
 | wh {f:Frame} {cs:List Frame} {w:World} {o:Oper} {c:Call} (h:opAt f = some o) (ho:o.op = .call c) (hc:c.callee = .value (.func sq.wh)):SpK P ⟨f,cs,w⟩ ⟨Frame.enter P sq.wh (c.args.map f.eval) .normal,f :: cs,w⟩
 | send {f:Frame} {cs:List Frame} {w:World} {o:Oper} {c:Call} {x y u:Operand} {v:Value} {r cap:Nat} {buf:Array Value} {s e:Nat} {tm:Bool} {cells:Array Value} {el:TypeId} (h:opAt f = some o) (ho:o.op = .call c) (hc:c.callee = .value (.func nfn))
   (hx:c.args = #[x,y,u,.const (.bool true),.const (.bool false)]) (hv:f.eval x = .chan (some r)) (hy:f.eval y = v) (hclo:clo 20 v = true) (hr:w.heap[r]? = some (.chan cap buf false s e tm)) :
   SpK P ⟨f,cs,w⟩ ⟨f.finish undef,cs,{ w with heap:=(w.heap.push (.cells cells el)).setIfInBounds r (.chan cap (buf.push v) false (s + 1) e tm) }⟩
 | recv {f:Frame} {cs:List Frame} {w:World} {o:Oper} {t:TypeId} {x:Operand} {v:Value} {r cap:Nat} {buf:Array Value} {s e:Nat} {tm cl:Bool} (h:opAt f = some o) (ho:o.op = .recv t x true) (hv:f.eval x = .chan (some r))
   (hr:w.heap[r]? = some (.chan cap buf cl s e tm)) (hb:buf[0]? = some v) (hzz:∃ z,qcg P t z):SpK P ⟨f,cs,w⟩ ⟨f.finish (.tuple #[v,.bool true]),cs,{ w with heap:=w.heap.setIfInBounds r (.chan cap (buf.extract 1 buf.size) cl s (e + 1) tm) }⟩
 | over {f:Frame} {cs:List Frame} {w:World} {o:Oper} {t:TypeId} {x:Operand} {z:Value} {r cap:Nat} {s e:Nat} {tm:Bool} (h:opAt f = some o) (ho:o.op = .recv t x true) (hv:f.eval x = .chan (some r))
   (hr:w.heap[r]? = some (.chan cap #[] true s e tm)) (hz:clo 20 z = true) (hzz:qcg P t z):SpK P ⟨f,cs,w⟩ ⟨f.finish (.tuple #[z,.bool false]),cs,w⟩
inductive Tr (P:Program):St->St->Prop
 | go {f f':Frame} {cs cs':List Frame} {w w':World} {es:Array Event} (hord:∀ o,opAt f = some o->bn P o.op = true) (hne:f.mode = .returning->cs ≠ []) (h:stepG P true (G f (cs ++ [base P])) w = .go (G f' (cs' ++ [base P])) w' es)
   (hnp:f'.mode = .run\/f'.mode = .returning):Tr P ⟨f,cs,w⟩ ⟨f',cs',w'⟩
 | sp {s s':St} (k:Nat) (h:∀ τ,qcs P (k + 1) ((s.on τ).m P) ((s'.on τ).m P)) (hk:SpK P s s'):Tr P s s'
structure qfd (P:Program) (Sp:Oper->Oper->Prop) (K:FuncId->Prop) (s:St):Prop where
 ex:∃ β,HR β s.w s.w/\FrR P Sp β s.f s.f/\K s.f.fn/\∀ c ∈ s.cs,FrR P Sp β c c/\c.mode = .run/\K c.fn
def EnS (s:St):Prop:=s.f.mode = .returning/\s.cs = []
section
variable {P:Program} {R:Value->World->Prop} {Sp:Oper->Oper->Prop} {K:FuncId->Prop}
theorem qec {s:St}:AtEnd P (s.m P) ↔ EnS s:=by
 constructor
 ·rintro ⟨fr,w,e,hm⟩
  obtain ⟨h1,h2,_⟩:=qfl e
  exact ⟨by rw [h1];exact hm,by simpa using h2⟩
 ·rintro ⟨h1,h2⟩
  exact ⟨s.f,s.w,by simp [St.m,h2],h1⟩
theorem SpK.drawn {s s':St} (h:SpK P s s'):s'.w.drawn = s.w.drawn/\s'.w.tape = s.w.tape:=by cases h <;> exact ⟨rfl,rfl⟩
theorem SpK.on {s s':St} (h:SpK P s s') (τ:Tape):SpK P (s.on τ) (s'.on τ):=by
 cases h with
 | make n h ho hty=>exact .make n h ho hty
 | shut h ho hc hx hv hr=>exact .shut h ho hc hx hv hr
 | go h ho hc hx hv hy hz hclo hr=>exact .go h ho hc hx hv hy hz hclo hr
 | wh h ho hc=>exact .wh h ho hc
 | send h ho hc hx hv hy hclo hr=>exact .send h ho hc hx hv hy hclo hr
 | recv h ho hv hr hb hzz=>exact .recv h ho hv hr hb hzz
 | over h ho hv hr hz hzz=>exact .over h ho hv hr hz hzz
theorem Tr.steps {s s':St} (h:Tr P s s'):∃ k,qcs P (k + 1) (s.m P) (s'.m P):=by
 cases h with
 | @go f f' cs cs' w w' es hord hne h hnp =>
  refine ⟨0,?_,_,jq h,rfl⟩
  intro he
  obtain ⟨h1,h2⟩:=qec.1 he
  exact hne h1 h2
 | sp k h hk =>
  have:=h s.w.tape
  rw [qh0 rfl,qh0 hk.drawn.2] at this
  exact ⟨k,this⟩
end
end Go.Proofs.Ytcdclihinmdgiaa.sq
