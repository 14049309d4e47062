import Derived.Test.YtgcnemkhppkkcaaV10
import Derived.Test.YtgcnemkhppkkcaaV04
import Derived.Test.YtgcnemkhppkkcaaV09
import Derived.Test.YtgcnemkhppkkcaaV08
import Derived.Test.YtgcnemkhppkkcaaV06
import Derived.Test.YtgcnemkhppkkcaaV05
import Derived.Lib.Bytealg
import Derived.Laws.StandIn
import Derived.Shelf.Abstract
import Derived.StillTailTactics
import Derived.Test.YtgcnemkhppkkcaaV07
import Derived.Deep.AppendLies
namespace Go.Proofs.Ytgcnemkhppkkcaa.orb
open pm
set_option linter.unusedVariables false
set_option maxRecDepth 100000
theorem ren_thn {n:Nat} {X Y P:List Int} (h:Ren n X Y P) (lx:X.length = n) (lp:P.length = n):thn X P = thn P Y:=by
 refine list_eq n (by rw [thn_len];exact lx) (by rw [thn_len];exact lp) fun i hi=>?_
 rw [thn_at (by omega),thn_at (by omega)]
 exact (h.eq i hi).symm
theorem conj_inv {n:Nat} {X Y P:List Int} (x:Ok X) (y:Ok Y) (p:Ok P) (lx:X.length = n) (ly:Y.length = n) (lp:P.length = n) (h:thn X P = thn P Y):thn (Inv X) P = thn P (Inv Y):=by
 have ix:=Inv_ok x
 have lix:(Inv X).length = n:=by rw [Inv_len];exact lx
 have e1:P = thn (Inv X) (thn P Y):=by rw [<-h,<-thn_assoc ix (by rw [lix,lx]),Inv_thn_self x lx,id_thn lp]
 have o1:Ok (thn (Inv X) P):=thn_ok ix p (by rw [lix,lp])
 have e2:thn P (Inv Y) = thn (thn (Inv X) (thn P Y)) (Inv Y):=by rw [<-e1]
 rw [e2,<-thn_assoc ix (by rw [lix,lp]),thn_assoc o1 (by rw [thn_len,lix,ly]),thn_Inv y ly,thn_id o1 (by rw [thn_len];exact lix)]
theorem conj_thn {n:Nat} {X Y X' Y' P:List Int} (x:Ok X) (p:Ok P) (x':Ok X') (lx:X.length = n) (lp:P.length = n) (lx':X'.length = n) (ly:Y.length = n) (ly':Y'.length = n) (h:thn X P = thn P X') (h':thn Y P = thn P Y'):thn (thn X Y) P = thn P (thn X' Y'):=by
 rw [thn_assoc x (by rw [lx,ly]),h',<-thn_assoc x (by rw [lx,lp]),h,thn_assoc p (by rw [lp,lx'])]
theorem let_iso {n:Nat} {R U R' U' ns:List Int} (h:Iso n R U R' U' ns) (s':Sf n R' U') (c:UInt8):Iso n (letS c (R,U)).1 (letS c (R,U)).2 (letS c (R',U')).1 (letS c (R',U')).2 ns:=by
 have s:=h.s
 have a1:=ren_thn h.r s.lr h.ln
 have a2:=ren_thn h.u s.lu h.ln
 have i1:=conj_inv s.r s'.r h.okn s.lr s'.lr h.ln a1
 have i2:=conj_inv s.u s'.u h.okn s.lu s'.lu h.ln a2
 have li1:(Inv R).length = n:=by rw [Inv_len];exact s.lr
 have li1':(Inv R').length = n:=by rw [Inv_len];exact s'.lr
 have li2:(Inv U).length = n:=by rw [Inv_len];exact s.lu
 have li2':(Inv U').length = n:=by rw [Inv_len];exact s'.lu
 have t:=letS_sf s c
 have t':=letS_sf s' c
 unfold letS at t t' ⊢
 split
 ·rename_i e
  rw [if_pos e] at t t'
  exact ⟨t,h.okn,h.ln,h.r,ren_of t.u t'.u h.okn t.lu t'.lu h.ln (conj_thn (Inv_ok s.r) h.okn (Inv_ok s'.r) li1 h.ln li1' s.lu s'.lu i1 a2)⟩
 ·rename_i e
  rw [if_neg e] at t t'
  split
  ·rename_i e2
   rw [if_pos e2] at t t'
   exact ⟨t,h.okn,h.ln,h.r,ren_of t.u t'.u h.okn t.lu t'.lu h.ln (conj_thn s.r h.okn s'.r s.lr h.ln s'.lr s.lu s'.lu a1 a2)⟩
  ·rename_i e2
   rw [if_neg e2] at t t'
   split
   ·rename_i e3
    rw [if_pos e3] at t t'
    exact ⟨t,h.okn,h.ln,ren_of t.r t'.r h.okn t.lr t'.lr h.ln i2,h.r⟩
   ·rename_i e3
    rw [if_neg e3] at t t'
    exact ⟨t,h.okn,h.ln,h.u,ren_of t.u t'.u h.okn t.lu t'.lu h.ln i1⟩
theorem cn_let {n:Nat} {s:Sur} (h:Sf n s.1 s.2) (c:UInt8):cn (letS c (cn s)) = cn (letS c s):=by
 obtain ⟨R,U⟩:=s
 obtain ⟨ns,i,s'⟩:=h.can_iso
 have e:cn (R,U) = can R U n:=by unfold cn;rw [h.lr]
 rw [e]
 have j:=let_iso i s' c
 have k:=letS_sf h c
 have k':=letS_sf s' c
 have:=j.can_eq k'
 unfold cn
 rw [k.lr,k'.lr]
 exact this
theorem cn_cn {n:Nat} {s:Sur} (h:Sf n s.1 s.2):cn (cn s) = cn s:=by
 obtain ⟨R,U⟩:=s
 obtain ⟨ns,i,s'⟩:=h.can_iso
 have e:cn (R,U) = can R U n:=by unfold cn;rw [h.lr]
 rw [e]
 unfold cn
 rw [s'.lr]
 exact i.can_eq s'
theorem stp_cn_eq {n:Nat} {s:Sur} (h:Sf n s.1 s.2) (c:UInt8):stp c (cn s) = cn (letS c s):=cn_let h c
theorem g_sub_len {α:Type} [DecidableEq α]:∀ (l m:List α),l.Nodup->(∀ x ∈ l,x ∈ m)->l.length<=m.length:=by
 intro l
 induction l with
 | nil=>intros;simp
 | cons a t ih =>
  intro m hd hs
  have hd':=List.nodup_cons.1 hd
  have ha:=hs a (by simp)
  have:=ih (m.erase a) hd'.2 (fun x hx=>(List.mem_erase_of_ne (fun (e:x = a)=>hd'.1 (by rw [<-e];exact hx))).2 (hs x (by simp [hx])))
  rw [List.length_erase_of_mem ha] at this
  have:0 < m.length:=List.length_pos_of_mem ha
  simp
  omega
structure Oj (n:Nat) (s:Sur) (k:Nat) (q:LW):Prop where
 oi:Oi n q
 head:q.1[0]? = some (cn s)
 word:∀ (i:Nat) (w:List UInt8) (x:Sur),q.2[i]? = some w->q.1[i]? = some x->w.all isL = true/\x = cn (runS w s)
 nd:q.1.Nodup
 cl:∀ (i:Nat) (x:Sur),i < k->q.1[i]? = some x->stp 84 x ∈ q.1/\stp 83 x ∈ q.1
theorem Oj.start {n:Nat} {s:Sur} (h:Sf n s.1 s.2):Oj n s 0 ([cn s],[[]]) :=
 ⟨Oi.start h,rfl,fun i w x hw hx=>by
  cases i with
  | zero=>simp at hw hx;subst hw;subst hx;exact ⟨rfl,rfl⟩
  | succ i=>simp at hw,by simp,fun i x hi=>absurd hi (by omega)⟩
theorem snoc_at {α:Type} {l:List α} {a x:α} {i:Nat} (h:(l ++ [a])[i]? = some x):l[i]? = some x\/(i = l.length/\x = a):=by
 rw [List.getElem?_append] at h
 split at h
 ·exact .inl h
 ·rcases Nat.eq_zero_or_pos (i - l.length) with e | e
  ·rw [e] at h;simp at h;exact .inr ⟨by omega,h.symm⟩
  ·rw [List.getElem?_eq_none (by simp;omega)] at h;cases h
theorem Oj.add {n k:Nat} {s:Sur} {q:LW} (hs:Sf n s.1 s.2) (h:Oj n s k q) (hk:k < q.1.length) {c:UInt8} (hc:isL c = true):Oj n s k (addL k c q)/\(∀ x,q.1[k]? = some x->stp c x ∈ (addL k c q).1):=by
 obtain ⟨x,w,h1,h2,h3,h4,h5,h6⟩:=h.oi.at hk
 have hoi:=h.oi.add hk c
 by_cases hm:stp c x ∈ q.1
 ·have e:addL k c q = q:=by unfold addL;rw [h2,if_pos hm]
  rw [e]
  exact ⟨h,fun y hy=>by rw [h1] at hy;obtain rfl:=Option.some.inj hy;exact hm⟩
 ·have e:addL k c q = (q.1 ++ [stp c x],q.2 ++ [w ++ [c]]):=by unfold addL;rw [h2,h5,if_neg hm]
  rw [e] at hoi ⊢
  obtain ⟨w1,w2⟩:=h.word k w x h4 h1
  have hl:=h.oi.len
  refine ⟨⟨hoi,?_,fun i v y hv hy=>?_,?_,fun i y hi hy=>?_⟩,fun y hy=>?_⟩
  ·show (q.1 ++ [stp c x])[0]? = _
   rw [List.getElem?_append_left (by omega)];exact h.head
  ·rcases snoc_at hv with a | ⟨a,rfl⟩ <;> rcases snoc_at hy with b | ⟨b,rfl⟩
   ·exact h.word i v y a b
   ·have:=(List.getElem?_eq_some_iff.1 a).1;omega
   ·have:=(List.getElem?_eq_some_iff.1 b).1;omega
   ·refine ⟨by simp [w1,hc],?_⟩
    rw [runS_snoc,w2]
    exact stp_cn_eq (runS_sf w s hs) c
  ·show (q.1 ++ [stp c x]).Nodup
   rw [List.nodup_append]
   refine ⟨h.nd,by simp,fun a ha b hb=>?_⟩
   simp at hb
   subst hb
   intro e'
   exact hm (e' ▸ ha)
  ·rcases snoc_at hy with b | ⟨b,_⟩
   ·obtain ⟨c1,c2⟩:=h.cl i y hi b
    exact ⟨List.mem_append_left _ c1,List.mem_append_left _ c2⟩
   ·omega
  ·rw [h1] at hy
   obtain rfl:=Option.some.inj hy
   exact List.mem_append_right _ (by simp)
theorem Oj.two {n k:Nat} {s:Sur} {q:LW} (hs:Sf n s.1 s.2) (h:Oj n s k q) (hk:k < q.1.length):Oj n s (k + 1) (two k q):=by
 obtain ⟨a1,a2⟩:=h.add hs hk (c:=84) (by decide)
 obtain ⟨r,er,_⟩:=addL_sub k 84 q
 have hk2:k < (addL k 84 q).1.length:=by rw [er];simp;omega
 obtain ⟨b1,b2⟩:=a1.add hs hk2 (c:=83) (by decide)
 obtain ⟨r2,er2,_⟩:=addL_sub k 83 (addL k 84 q)
 refine ⟨b1.oi,b1.head,b1.word,b1.nd,fun i x hi hx=>?_⟩
 by_cases e:i = k
 ·subst e
  have hq:=List.getElem?_eq_getElem hk
  have hx1:(addL i 84 q).1[i]? = some q.1[i]:=by rw [er,List.getElem?_append_left hk];exact hq
  have hx2:(orb.two i q).1[i]? = some q.1[i]:=by show (addL i 83 (addL i 84 q)).1[i]? = _;rw [er2,List.getElem?_append_left hk2];exact hx1
  rw [hx2] at hx
  obtain rfl:=Option.some.inj hx
  refine ⟨?_,b2 _ hx1⟩
  show _ ∈ (addL i 83 (addL i 84 q)).1
  rw [er2]
  exact List.mem_append_left _ (a2 _ hq)
 ·exact b1.cl i x (by omega) hx
theorem orun_oj {n:Nat} {s:Sur} (hs:Sf n s.1 s.2):∀ (f k:Nat) (q q':LW),Oj n s k q->orun f k q = some q'->Oj n s q'.1.length q'
 | 0,k,q,q',_,h=>by simp [orun] at h
 | f + 1,k,q,q',hq,h=>by
  unfold orun at h
  split at h
  ·rename_i hk
   split at h
   ·cases h
   ·exact orun_oj hs f (k + 1) _ q' (hq.two hs hk) h
  ·rename_i hk
   injection h with h
   subst h
   exact ⟨hq.oi,hq.head,hq.word,hq.nd,fun i x hi hx=>hq.cl i x (by omega) hx⟩
theorem orb_oj {n:Nat} {s:Sur} {q:LW} (hs:Sf n s.1 s.2) (h:orb s = some q):Oj n s q.1.length q:=orun_oj hs 122 0 _ q (Oj.start hs) h
theorem nd_at {L:List Sur} (h:L.Nodup) {i j:Nat} {x:Sur} (hi:L[i]? = some x) (hj:L[j]? = some x):i = j:=by
 obtain ⟨h1,e1⟩:=List.getElem?_eq_some_iff.1 hi
 obtain ⟨h2,e2⟩:=List.getElem?_eq_some_iff.1 hj
 have hp:=List.pairwise_iff_getElem.1 h
 rcases Nat.lt_trichotomy i j with q | q | q
 ·exact absurd (e1.trans e2.symm) (hp i j h1 h2 q)
 ·exact q
 ·exact absurd (e2.trans e1.symm) (hp j i h2 h1 q)
theorem stp_back {n:Nat} {c:UInt8} (hc:isL c = true) {x:Sur} (hx:Sf n x.1 x.2):stp (inL c) (stp c x) = cn x:=by
 have:stp (inL c) (cn (letS c x)) = cn (letS (inL c) (letS c x)):=stp_cn_eq (letS_sf hx c) (inL c)
 rw [show stp c x = cn (letS c x) from rfl,this,letS_inv hx hc]
section
variable {n:Nat} {s:Sur} {q:LW} (hs:Sf n s.1 s.2) (h:Oj n s q.1.length q)
include hs h
theorem Oj.fix {x:Sur} (hx:x ∈ q.1):cn x = x:=by
 obtain ⟨i,hi,e⟩:=List.mem_iff_getElem.1 hx
 have hx':q.1[i]? = some x:=by rw [List.getElem?_eq_getElem hi,e]
 have hi2:i < q.2.length:=by rw [h.oi.len];exact hi
 obtain ⟨_,w2⟩:=h.word i _ x (List.getElem?_eq_getElem hi2) hx'
 rw [w2]
 exact cn_cn (runS_sf _ s hs)
omit hs in
theorem Oj.step {c:UInt8} (hc:c = 84\/c = 83) {x:Sur} (hx:x ∈ q.1):stp c x ∈ q.1:=by
 obtain ⟨i,hi,e⟩:=List.mem_iff_getElem.1 hx
 obtain ⟨a,b⟩:=h.cl i x hi (by rw [List.getElem?_eq_getElem hi,e])
 rcases hc with rfl | rfl
 ·exact a
 ·exact b
theorem Oj.inj {c:UInt8} (hc:isL c = true) {x y:Sur} (hx:x ∈ q.1) (hy:y ∈ q.1) (e:stp c x = stp c y):x = y:=by
 have a:=stp_back hc (h.oi.sf x hx)
 have b:=stp_back hc (h.oi.sf y hy)
 rw [e,b,h.fix hs hx,h.fix hs hy] at a
 exact a.symm
end
end Go.Proofs.Ytgcnemkhppkkcaa.orb

namespace Go.Proofs.Ytgcnemkhppkkcaa.mk
open Go.ChangeShapes Go.WideShapes Go.ChangeAt Go.RowKit
open mem ints arr pm permOk permOf inv fns sf gl
set_option linter.unusedVariables false
set_option maxRecDepth 100000
end Go.Proofs.Ytgcnemkhppkkcaa.mk

namespace Go.Proofs.Ytgcnemkhppkkcaa.gl
open Go.ChangeShapes Go.WideShapes Go.ChangeAt Go.RowKit
open mem ints arr pm permOk permOf inv fns sf
set_option linter.unusedVariables false
set_option maxRecDepth 100000
end Go.Proofs.Ytgcnemkhppkkcaa.gl

namespace Go.Proofs.Ytgcnemkhppkkcaa.lw
open Go.ChangeShapes Go.WideShapes Go.ChangeAt Go.RowKit
open mem ints arr pm permOk permOf inv fns sf gl mk
set_option linter.unusedVariables false
set_option maxRecDepth 100000
def acR (f:Sur->Sur) (r u:List Int):List Int:=if transB r u then (f (r,u)).1 else []
def acU (f:Sur->Sur) (r u:List Int):List Int:=if transB r u then (f (r,u)).2 else []
theorem ac_yes (f:Sur->Sur) {r u:List Int} (h:transB r u = true):acR f r u = (f (r,u)).1/\acU f r u = (f (r,u)).2:=by simp [acR,acU,h]
theorem ac_no (f:Sur->Sur) {r u:List Int} (h:transB r u = false):acR f r u = []/\acU f r u = []:=by simp [acR,acU,h]
def shR (r u:List Int):List Int:=acR shearS r u
def shU (r u:List Int):List Int:=acU shearS r u
end Go.Proofs.Ytgcnemkhppkkcaa.lw

namespace Go.Proofs.Ytgcnemkhppkkcaa.wd
open Go.ChangeShapes Go.WideShapes Go.ChangeAt Go.RowKit
open mem ints arr pm
set_option linter.unusedVariables false
set_option maxRecDepth 100000
theorem ret_bool {a b:Bool} (h:a = b):Ending.returned (.bool a) = .returned (.bool b):=by rw [h]
def num (c:UInt8):Int:=if c.toNat = 84 then 0 else if c.toNat = 116 then 1 else if c.toNat = 83 then 2 else if c.toNat = 115 then 3 else -1
end Go.Proofs.Ytgcnemkhppkkcaa.wd

namespace Go.Proofs.Ytgcnemkhppkkcaa.la
open Go.ChangeShapes Go.WideShapes Go.ChangeAt Go.RowKit
open mem ints arr pm permOk permOf inv fns sf gl mk lw
set_option linter.unusedVariables false
set_option maxRecDepth 100000
set_option maxHeartbeats 8000000 in
theorem lit1 (r u:List Int) (n:Nat) (w:World) (hs:Sf n r u) :
  Calls sqp.prog 129 #[.agg (V (gl (ext r) (ext u) n)).toArray] w fun e w'=>e = .returned (.agg (V (gl (ext r) (ext (thn (Inv r) u)) n)).toArray)/\Below w.heap.size w w':=by
 have HS:=Lib.hid hs
 have RS:=Lib.hid hs.r.sq;have US:=Lib.hid hs.u.sq
 have ER:=Lib.hid (inv_ext hs.r);have EU:=Lib.hid (inv_ext hs.u)
 clear hs
 go_enter sqp.func129,sqp.ntmps129
 go_wp2_with fail
 generalize hw1:(w.alloc (.cells (V (gl (ext r) (ext u) n)).toArray 62)).alloc (.cells #[.int .i64 0,.int .i64 0,.int .i64 0,.int .i64 0,.int .i64 0,.int .i64 0,.int .i64 0,.int .i64 0,.int .i64 0,.int .i64 0,.int .i64 0,.int .i64 0,.int .i64 0,.int .i64 0,.int .i64 0,.int .i64 0,.int .i64 0,.int .i64 0,.int .i64 0,.int .i64 0,.int .i64 0,.int .i64 0,.int .i64 0,.int .i64 0,.int .i64 0,.int .i64 0,.int .i64 0,.int .i64 0,.int .i64 0,.int .i64 0,.int .i64 0,.int .i64 0,.int .i64 0,.int .i64 0,.int .i64 0,.int .i64 0,.int .i64 0,.int .i64 0,.int .i64 0,.int .i64 0,.int .i64 0,.int .i64 0,.int .i64 0,.int .i64 0,.int .i64 0,.int .i64 0,.int .i64 0,.int .i64 0,.int .i64 0] 62) = w1
 have A0:Hid (Arr w1 w.heap.size (V (gl (ext r) (ext u) n)) 62):=Lib.hid (by rw [<-hw1];exact (Arr.new w _ _ rfl).alloc _)
 have A1:Hid (Arr w1 (w.heap.size + 1) (V zero49) 62):=Lib.hid (by rw [<-hw1];exact Arr.new _ (V zero49) _ (by simp))
 have B1:Hid (Below w.heap.size w w1):=Lib.hid (by rw [<-hw1];exact ((Below.refl _ _).alloc (Nat.le_refl _) _).alloc (by simp) _)
 have s1:w1.heap.size = w.heap.size + 2:=by rw [<-hw1];simp
 clear hw1
 refine wp_region_held_drew (S:=Hld w.heap.size w1.heap.size w1 [(w.heap.size,(V (gl (ext r) (ext u) n)))]) (by kernel_rfl) ((Hld.start1 A0.out).lower (by omega)) (fun hHeld=>?_)
 have b1:Below w1.heap.size w1 w1.drew:=⟨rfl,rfl,rfl,Nat.le_refl _,fun _ _=>rfl⟩
 generalize w1.drew = w2 at *
 have s2:=b1.size
 replace A1:=Lib.hid (A1.out.keep b1 A1.out.lt)
 replace B1:=Lib.hid (B1.out.trans (b1.mono B1.out.size))
 clear b1 A0
 refine wpAnyH_take (i:=0) (v:=.pointer (some ⟨w.heap.size,0,none⟩)) rfl (by kernel_rfl) (by kernel_rfl) (by kernel_rfl) (fun _ _ _ h=>h) (Or.inl ⟨by rfl,fun w hSw=>by go_simp⟩) hHeld ?_
 refine wpAnyH_take (i:=2) (v:=.pointer (some ⟨w.heap.size,0,none⟩)) rfl (by kernel_rfl) (by kernel_rfl) (by kernel_rfl) (fun _ _ _ h=>h) (Or.inl ⟨by rfl,fun w hSw=>by go_simp⟩) hHeld ?_
 refine wpAnyH_take (i:=5) (v:=.pointer (some ⟨w.heap.size,24,none⟩)) rfl (by kernel_rfl) (by kernel_rfl) (by kernel_rfl) (fun _ _ _ h=>h) (Or.inl ⟨by rfl,fun w hSw=>by go_simp⟩) hHeld ?_
 refine wpAnyH_take (i:=8) (v:=.pointer (some ⟨w.heap.size,48,none⟩)) rfl (by kernel_rfl) (by kernel_rfl) (by kernel_rfl) (fun _ _ _ h=>h) (Or.inl ⟨by rfl,fun w hSw=>by go_simp⟩) hHeld ?_
 refine wpAnyH_take (i:=1) (v:=.agg (V (ext r)).toArray) rfl (by kernel_rfl) (by kernel_rfl) (by kernel_rfl) (fun _ _ _ h=>h) (yieldsIf_load_mid (by rfl) _ _ rfl (w.heap.size) 0 rfl (V (ext r)) _ (fun w h=>rg_right (ext_len _) h.fst) sqp.underlying60 rfl (hi24 (ext_len _))) hHeld ?_
 refine wpAnyH_take (i:=3) (v:=.agg (V (ext r)).toArray) rfl (by kernel_rfl) (by kernel_rfl) (by kernel_rfl) (fun _ _ _ h=>h) (yieldsIf_load_mid (by rfl) _ _ rfl (w.heap.size) 0 rfl (V (ext r)) _ (fun w h=>rg_right (ext_len _) h.fst) sqp.underlying60 rfl (hi24 (ext_len _))) hHeld ?_
 refine wpAnyH_take (i:=6) (v:=.agg (V (ext u)).toArray) rfl (by kernel_rfl) (by kernel_rfl) (by kernel_rfl) (fun _ _ _ h=>h) (yieldsIf_load_mid (by rfl) _ _ rfl (w.heap.size) 24 rfl (V (ext u)) _ (fun w h=>rg_up (ext_len _) (ext_len _) h.fst) sqp.underlying60 rfl (hi24 (ext_len _))) hHeld ?_
 refine wpAnyH_take (i:=9) (v:=.int .i64 n) rfl (by kernel_rfl) (by kernel_rfl) (by kernel_rfl) (fun _ _ _ h=>h) (Or.inl ⟨by rfl,fun w hSw=>by have:=rg_count (ext_len _) (ext_len _) hSw.fst;go_simp⟩) hHeld ?_
 refine wpAnyH_ready (rs:=[4]) (by kernel_rfl) (by simp) (AllReadyH.cons rfl (fun K hK=>?_) AllReadyH.nil)
 go_simp
 refine (inverse_any (ext r) _ RS.out).mono ?_
 rintro e w' ⟨rfl,b1⟩
 rw [ER.out]
 replace A1:=Lib.hid (A1.out.keep b1 A1.out.lt)
 replace B1:=Lib.hid (B1.out.trans (b1.mono B1.out.size))
 go_wp2_with fail
 have hHeld2:=hHeld.later b1 (by omega);clear b1 hHeld
 refine hK.out _ _ hHeld2 (fun hHeld=>?_)
 clear hK K hHeld2
 refine wpAnyH_ready (rs:=[7]) (by kernel_rfl) (by simp) (AllReadyH.cons rfl (fun K hK=>?_) AllReadyH.nil)
 go_simp
 refine (inv.then_any (ext (Inv r)) (ext u) _ (Inv_ok HS.out.r).sq US.out).mono ?_
 rintro e w' ⟨rfl,b1⟩
 rw [thn_ext (Inv_ok HS.out.r) HS.out.u (by rw [Inv_len,HS.out.lr,HS.out.lu])]
 replace A1:=Lib.hid (A1.out.keep b1 A1.out.lt)
 replace B1:=Lib.hid (B1.out.trans (b1.mono B1.out.size))
 go_wp2_with fail
 have hHeld2:=hHeld.later b1 (by omega);clear b1 hHeld
 refine hK.out _ _ hHeld2 (fun hHeld=>?_)
 clear hK K hHeld2
 refine wpAnyH_ready (rs:=[10]) (by kernel_rfl) (by simp) (AllReadyH.cons rfl (fun K hK=>?_) AllReadyH.nil)
 refine step_build rfl 62 _ rfl [(0,.agg (V (ext r)).toArray),(1,.agg (V (ext (thn (Inv r) u))).toArray),(2,.int .i64 n)] rfl (V (gl (ext r) (ext (thn (Inv r) u)) n)).toArray (built_gl (ext_len _) (ext_len _) n) ?_
 refine hK.out _ _ hHeld (fun hHeld2=>?_)
 clear hK K hHeld2
 refine wpAnyH_ready (rs:=[11]) (by kernel_rfl) (by simp) (AllReadyH.cons rfl (fun K hK=>?_) AllReadyH.nil)
 refine step_store_row rfl 62 _ _ rfl (w.heap.size + 1) (V (gl (ext r) (ext (thn (Inv r) u)) n)).toArray rfl rfl 62 (V zero49).toArray A1.out (size49 (gl_len (ext_len _) (ext_len _) n)) (by simp [V_len,gl_len,ext_len,zero49]) (one_V _) ?_
 refine hK.out _ _ (hHeld.other (by omega) (by simp) _) (fun hHeld2=>?_)
 clear hK K hHeld2
 refine wpAnyH_done (by kernel_rfl) ?_ _
 go_wp2_with fail
 exact bodyPost_ret (v:=.agg (V (gl (ext r) (ext (thn (Inv r) u)) n)).toArray) (results_cell_row rfl _ _ (w.heap.size + 1) 62 (V (gl (ext r) (ext (thn (Inv r) u)) n)).toArray (0,0) _ rfl A1.out.row sqp.underlying62 rfl (size49 (gl_len (ext_len _) (ext_len _) n))) rfl ⟨rfl,below_setRow B1.out (by omega) _⟩
set_option maxHeartbeats 8000000 in
theorem lit2 (r u:List Int) (n:Nat) (w:World) (hs:Sf n r u) :
  Calls sqp.prog 130 #[.agg (V (gl (ext r) (ext u) n)).toArray] w fun e w'=>e = .returned (.agg (V (gl (ext r) (ext (thn r u)) n)).toArray)/\Below w.heap.size w w':=by
 have HS:=Lib.hid hs
 have RS:=Lib.hid hs.r.sq;have US:=Lib.hid hs.u.sq
 have ER:=Lib.hid (inv_ext hs.r);have EU:=Lib.hid (inv_ext hs.u)
 clear hs
 go_enter sqp.func130,sqp.ntmps130
 go_wp2_with fail
 generalize hw1:(w.alloc (.cells (V (gl (ext r) (ext u) n)).toArray 62)).alloc (.cells #[.int .i64 0,.int .i64 0,.int .i64 0,.int .i64 0,.int .i64 0,.int .i64 0,.int .i64 0,.int .i64 0,.int .i64 0,.int .i64 0,.int .i64 0,.int .i64 0,.int .i64 0,.int .i64 0,.int .i64 0,.int .i64 0,.int .i64 0,.int .i64 0,.int .i64 0,.int .i64 0,.int .i64 0,.int .i64 0,.int .i64 0,.int .i64 0,.int .i64 0,.int .i64 0,.int .i64 0,.int .i64 0,.int .i64 0,.int .i64 0,.int .i64 0,.int .i64 0,.int .i64 0,.int .i64 0,.int .i64 0,.int .i64 0,.int .i64 0,.int .i64 0,.int .i64 0,.int .i64 0,.int .i64 0,.int .i64 0,.int .i64 0,.int .i64 0,.int .i64 0,.int .i64 0,.int .i64 0,.int .i64 0,.int .i64 0] 62) = w1
 have A0:Hid (Arr w1 w.heap.size (V (gl (ext r) (ext u) n)) 62):=Lib.hid (by rw [<-hw1];exact (Arr.new w _ _ rfl).alloc _)
 have A1:Hid (Arr w1 (w.heap.size + 1) (V zero49) 62):=Lib.hid (by rw [<-hw1];exact Arr.new _ (V zero49) _ (by simp))
 have B1:Hid (Below w.heap.size w w1):=Lib.hid (by rw [<-hw1];exact ((Below.refl _ _).alloc (Nat.le_refl _) _).alloc (by simp) _)
 have s1:w1.heap.size = w.heap.size + 2:=by rw [<-hw1];simp
 clear hw1
 refine wp_region_held_drew (S:=Hld w.heap.size w1.heap.size w1 [(w.heap.size,(V (gl (ext r) (ext u) n)))]) (by kernel_rfl) ((Hld.start1 A0.out).lower (by omega)) (fun hHeld=>?_)
 have b1:Below w1.heap.size w1 w1.drew:=⟨rfl,rfl,rfl,Nat.le_refl _,fun _ _=>rfl⟩
 generalize w1.drew = w2 at *
 have s2:=b1.size
 replace A1:=Lib.hid (A1.out.keep b1 A1.out.lt)
 replace B1:=Lib.hid (B1.out.trans (b1.mono B1.out.size))
 clear b1 A0
 refine wpAnyH_take (i:=0) (v:=.pointer (some ⟨w.heap.size,0,none⟩)) rfl (by kernel_rfl) (by kernel_rfl) (by kernel_rfl) (fun _ _ _ h=>h) (Or.inl ⟨by rfl,fun w hSw=>by go_simp⟩) hHeld ?_
 refine wpAnyH_take (i:=2) (v:=.pointer (some ⟨w.heap.size,0,none⟩)) rfl (by kernel_rfl) (by kernel_rfl) (by kernel_rfl) (fun _ _ _ h=>h) (Or.inl ⟨by rfl,fun w hSw=>by go_simp⟩) hHeld ?_
 refine wpAnyH_take (i:=4) (v:=.pointer (some ⟨w.heap.size,24,none⟩)) rfl (by kernel_rfl) (by kernel_rfl) (by kernel_rfl) (fun _ _ _ h=>h) (Or.inl ⟨by rfl,fun w hSw=>by go_simp⟩) hHeld ?_
 refine wpAnyH_take (i:=7) (v:=.pointer (some ⟨w.heap.size,48,none⟩)) rfl (by kernel_rfl) (by kernel_rfl) (by kernel_rfl) (fun _ _ _ h=>h) (Or.inl ⟨by rfl,fun w hSw=>by go_simp⟩) hHeld ?_
 refine wpAnyH_take (i:=1) (v:=.agg (V (ext r)).toArray) rfl (by kernel_rfl) (by kernel_rfl) (by kernel_rfl) (fun _ _ _ h=>h) (yieldsIf_load_mid (by rfl) _ _ rfl (w.heap.size) 0 rfl (V (ext r)) _ (fun w h=>rg_right (ext_len _) h.fst) sqp.underlying60 rfl (hi24 (ext_len _))) hHeld ?_
 refine wpAnyH_take (i:=3) (v:=.agg (V (ext r)).toArray) rfl (by kernel_rfl) (by kernel_rfl) (by kernel_rfl) (fun _ _ _ h=>h) (yieldsIf_load_mid (by rfl) _ _ rfl (w.heap.size) 0 rfl (V (ext r)) _ (fun w h=>rg_right (ext_len _) h.fst) sqp.underlying60 rfl (hi24 (ext_len _))) hHeld ?_
 refine wpAnyH_take (i:=5) (v:=.agg (V (ext u)).toArray) rfl (by kernel_rfl) (by kernel_rfl) (by kernel_rfl) (fun _ _ _ h=>h) (yieldsIf_load_mid (by rfl) _ _ rfl (w.heap.size) 24 rfl (V (ext u)) _ (fun w h=>rg_up (ext_len _) (ext_len _) h.fst) sqp.underlying60 rfl (hi24 (ext_len _))) hHeld ?_
 refine wpAnyH_take (i:=8) (v:=.int .i64 n) rfl (by kernel_rfl) (by kernel_rfl) (by kernel_rfl) (fun _ _ _ h=>h) (Or.inl ⟨by rfl,fun w hSw=>by have:=rg_count (ext_len _) (ext_len _) hSw.fst;go_simp⟩) hHeld ?_
 refine wpAnyH_ready (rs:=[6]) (by kernel_rfl) (by simp) (AllReadyH.cons rfl (fun K hK=>?_) AllReadyH.nil)
 go_simp
 refine (inv.then_any (ext r) (ext u) _ RS.out US.out).mono ?_
 rintro e w' ⟨rfl,b1⟩
 rw [thn_ext HS.out.r HS.out.u (by rw [HS.out.lr,HS.out.lu])]
 replace A1:=Lib.hid (A1.out.keep b1 A1.out.lt)
 replace B1:=Lib.hid (B1.out.trans (b1.mono B1.out.size))
 go_wp2_with fail
 have hHeld2:=hHeld.later b1 (by omega);clear b1 hHeld
 refine hK.out _ _ hHeld2 (fun hHeld=>?_)
 clear hK K hHeld2
 refine wpAnyH_ready (rs:=[9]) (by kernel_rfl) (by simp) (AllReadyH.cons rfl (fun K hK=>?_) AllReadyH.nil)
 refine step_build rfl 62 _ rfl [(0,.agg (V (ext r)).toArray),(1,.agg (V (ext (thn r u))).toArray),(2,.int .i64 n)] rfl (V (gl (ext r) (ext (thn r u)) n)).toArray (built_gl (ext_len _) (ext_len _) n) ?_
 refine hK.out _ _ hHeld (fun hHeld2=>?_)
 clear hK K hHeld2
 refine wpAnyH_ready (rs:=[10]) (by kernel_rfl) (by simp) (AllReadyH.cons rfl (fun K hK=>?_) AllReadyH.nil)
 refine step_store_row rfl 62 _ _ rfl (w.heap.size + 1) (V (gl (ext r) (ext (thn r u)) n)).toArray rfl rfl 62 (V zero49).toArray A1.out (size49 (gl_len (ext_len _) (ext_len _) n)) (by simp [V_len,gl_len,ext_len,zero49]) (one_V _) ?_
 refine hK.out _ _ (hHeld.other (by omega) (by simp) _) (fun hHeld2=>?_)
 clear hK K hHeld2
 refine wpAnyH_done (by kernel_rfl) ?_ _
 go_wp2_with fail
 exact bodyPost_ret (v:=.agg (V (gl (ext r) (ext (thn r u)) n)).toArray) (results_cell_row rfl _ _ (w.heap.size + 1) 62 (V (gl (ext r) (ext (thn r u)) n)).toArray (0,0) _ rfl A1.out.row sqp.underlying62 rfl (size49 (gl_len (ext_len _) (ext_len _) n))) rfl ⟨rfl,below_setRow B1.out (by omega) _⟩
set_option maxHeartbeats 8000000 in
theorem lit3 (r u:List Int) (n:Nat) (w:World) (hs:Sf n r u) :
  Calls sqp.prog 131 #[.agg (V (gl (ext r) (ext u) n)).toArray] w fun e w'=>e = .returned (.agg (V (gl (ext (Inv u)) (ext r) n)).toArray)/\Below w.heap.size w w':=by
 have HS:=Lib.hid hs
 have RS:=Lib.hid hs.r.sq;have US:=Lib.hid hs.u.sq
 have ER:=Lib.hid (inv_ext hs.r);have EU:=Lib.hid (inv_ext hs.u)
 clear hs
 go_enter sqp.func131,sqp.ntmps131
 go_wp2_with fail
 generalize hw1:(w.alloc (.cells (V (gl (ext r) (ext u) n)).toArray 62)).alloc (.cells #[.int .i64 0,.int .i64 0,.int .i64 0,.int .i64 0,.int .i64 0,.int .i64 0,.int .i64 0,.int .i64 0,.int .i64 0,.int .i64 0,.int .i64 0,.int .i64 0,.int .i64 0,.int .i64 0,.int .i64 0,.int .i64 0,.int .i64 0,.int .i64 0,.int .i64 0,.int .i64 0,.int .i64 0,.int .i64 0,.int .i64 0,.int .i64 0,.int .i64 0,.int .i64 0,.int .i64 0,.int .i64 0,.int .i64 0,.int .i64 0,.int .i64 0,.int .i64 0,.int .i64 0,.int .i64 0,.int .i64 0,.int .i64 0,.int .i64 0,.int .i64 0,.int .i64 0,.int .i64 0,.int .i64 0,.int .i64 0,.int .i64 0,.int .i64 0,.int .i64 0,.int .i64 0,.int .i64 0,.int .i64 0,.int .i64 0] 62) = w1
 have A0:Hid (Arr w1 w.heap.size (V (gl (ext r) (ext u) n)) 62):=Lib.hid (by rw [<-hw1];exact (Arr.new w _ _ rfl).alloc _)
 have A1:Hid (Arr w1 (w.heap.size + 1) (V zero49) 62):=Lib.hid (by rw [<-hw1];exact Arr.new _ (V zero49) _ (by simp))
 have B1:Hid (Below w.heap.size w w1):=Lib.hid (by rw [<-hw1];exact ((Below.refl _ _).alloc (Nat.le_refl _) _).alloc (by simp) _)
 have s1:w1.heap.size = w.heap.size + 2:=by rw [<-hw1];simp
 clear hw1
 refine wp_region_held_drew (S:=Hld w.heap.size w1.heap.size w1 [(w.heap.size,(V (gl (ext r) (ext u) n)))]) (by kernel_rfl) ((Hld.start1 A0.out).lower (by omega)) (fun hHeld=>?_)
 have b1:Below w1.heap.size w1 w1.drew:=⟨rfl,rfl,rfl,Nat.le_refl _,fun _ _=>rfl⟩
 generalize w1.drew = w2 at *
 have s2:=b1.size
 replace A1:=Lib.hid (A1.out.keep b1 A1.out.lt)
 replace B1:=Lib.hid (B1.out.trans (b1.mono B1.out.size))
 clear b1 A0
 refine wpAnyH_take (i:=0) (v:=.pointer (some ⟨w.heap.size,24,none⟩)) rfl (by kernel_rfl) (by kernel_rfl) (by kernel_rfl) (fun _ _ _ h=>h) (Or.inl ⟨by rfl,fun w hSw=>by go_simp⟩) hHeld ?_
 refine wpAnyH_take (i:=3) (v:=.pointer (some ⟨w.heap.size,0,none⟩)) rfl (by kernel_rfl) (by kernel_rfl) (by kernel_rfl) (fun _ _ _ h=>h) (Or.inl ⟨by rfl,fun w hSw=>by go_simp⟩) hHeld ?_
 refine wpAnyH_take (i:=5) (v:=.pointer (some ⟨w.heap.size,48,none⟩)) rfl (by kernel_rfl) (by kernel_rfl) (by kernel_rfl) (fun _ _ _ h=>h) (Or.inl ⟨by rfl,fun w hSw=>by go_simp⟩) hHeld ?_
 refine wpAnyH_take (i:=1) (v:=.agg (V (ext u)).toArray) rfl (by kernel_rfl) (by kernel_rfl) (by kernel_rfl) (fun _ _ _ h=>h) (yieldsIf_load_mid (by rfl) _ _ rfl (w.heap.size) 24 rfl (V (ext u)) _ (fun w h=>rg_up (ext_len _) (ext_len _) h.fst) sqp.underlying60 rfl (hi24 (ext_len _))) hHeld ?_
 refine wpAnyH_take (i:=4) (v:=.agg (V (ext r)).toArray) rfl (by kernel_rfl) (by kernel_rfl) (by kernel_rfl) (fun _ _ _ h=>h) (yieldsIf_load_mid (by rfl) _ _ rfl (w.heap.size) 0 rfl (V (ext r)) _ (fun w h=>rg_right (ext_len _) h.fst) sqp.underlying60 rfl (hi24 (ext_len _))) hHeld ?_
 refine wpAnyH_take (i:=6) (v:=.int .i64 n) rfl (by kernel_rfl) (by kernel_rfl) (by kernel_rfl) (fun _ _ _ h=>h) (Or.inl ⟨by rfl,fun w hSw=>by have:=rg_count (ext_len _) (ext_len _) hSw.fst;go_simp⟩) hHeld ?_
 refine wpAnyH_ready (rs:=[2]) (by kernel_rfl) (by simp) (AllReadyH.cons rfl (fun K hK=>?_) AllReadyH.nil)
 go_simp
 refine (inverse_any (ext u) _ US.out).mono ?_
 rintro e w' ⟨rfl,b1⟩
 rw [EU.out]
 replace A1:=Lib.hid (A1.out.keep b1 A1.out.lt)
 replace B1:=Lib.hid (B1.out.trans (b1.mono B1.out.size))
 go_wp2_with fail
 have hHeld2:=hHeld.later b1 (by omega);clear b1 hHeld
 refine hK.out _ _ hHeld2 (fun hHeld=>?_)
 clear hK K hHeld2
 refine wpAnyH_ready (rs:=[7]) (by kernel_rfl) (by simp) (AllReadyH.cons rfl (fun K hK=>?_) AllReadyH.nil)
 refine step_build rfl 62 _ rfl [(0,.agg (V (ext (Inv u))).toArray),(1,.agg (V (ext r)).toArray),(2,.int .i64 n)] rfl (V (gl (ext (Inv u)) (ext r) n)).toArray (built_gl (ext_len _) (ext_len _) n) ?_
 refine hK.out _ _ hHeld (fun hHeld2=>?_)
 clear hK K hHeld2
 refine wpAnyH_ready (rs:=[8]) (by kernel_rfl) (by simp) (AllReadyH.cons rfl (fun K hK=>?_) AllReadyH.nil)
 refine step_store_row rfl 62 _ _ rfl (w.heap.size + 1) (V (gl (ext (Inv u)) (ext r) n)).toArray rfl rfl 62 (V zero49).toArray A1.out (size49 (gl_len (ext_len _) (ext_len _) n)) (by simp [V_len,gl_len,ext_len,zero49]) (one_V _) ?_
 refine hK.out _ _ (hHeld.other (by omega) (by simp) _) (fun hHeld2=>?_)
 clear hK K hHeld2
 refine wpAnyH_done (by kernel_rfl) ?_ _
 go_wp2_with fail
 exact bodyPost_ret (v:=.agg (V (gl (ext (Inv u)) (ext r) n)).toArray) (results_cell_row rfl _ _ (w.heap.size + 1) 62 (V (gl (ext (Inv u)) (ext r) n)).toArray (0,0) _ rfl A1.out.row sqp.underlying62 rfl (size49 (gl_len (ext_len _) (ext_len _) n))) rfl ⟨rfl,below_setRow B1.out (by omega) _⟩
set_option maxHeartbeats 8000000 in
theorem lit4 (r u:List Int) (n:Nat) (w:World) (hs:Sf n r u) :
  Calls sqp.prog 132 #[.agg (V (gl (ext r) (ext u) n)).toArray] w fun e w'=>e = .returned (.agg (V (gl (ext u) (ext (Inv r)) n)).toArray)/\Below w.heap.size w w':=by
 have HS:=Lib.hid hs
 have RS:=Lib.hid hs.r.sq;have US:=Lib.hid hs.u.sq
 have ER:=Lib.hid (inv_ext hs.r);have EU:=Lib.hid (inv_ext hs.u)
 clear hs
 go_enter sqp.func132,sqp.ntmps132
 go_wp2_with fail
 generalize hw1:(w.alloc (.cells (V (gl (ext r) (ext u) n)).toArray 62)).alloc (.cells #[.int .i64 0,.int .i64 0,.int .i64 0,.int .i64 0,.int .i64 0,.int .i64 0,.int .i64 0,.int .i64 0,.int .i64 0,.int .i64 0,.int .i64 0,.int .i64 0,.int .i64 0,.int .i64 0,.int .i64 0,.int .i64 0,.int .i64 0,.int .i64 0,.int .i64 0,.int .i64 0,.int .i64 0,.int .i64 0,.int .i64 0,.int .i64 0,.int .i64 0,.int .i64 0,.int .i64 0,.int .i64 0,.int .i64 0,.int .i64 0,.int .i64 0,.int .i64 0,.int .i64 0,.int .i64 0,.int .i64 0,.int .i64 0,.int .i64 0,.int .i64 0,.int .i64 0,.int .i64 0,.int .i64 0,.int .i64 0,.int .i64 0,.int .i64 0,.int .i64 0,.int .i64 0,.int .i64 0,.int .i64 0,.int .i64 0] 62) = w1
 have A0:Hid (Arr w1 w.heap.size (V (gl (ext r) (ext u) n)) 62):=Lib.hid (by rw [<-hw1];exact (Arr.new w _ _ rfl).alloc _)
 have A1:Hid (Arr w1 (w.heap.size + 1) (V zero49) 62):=Lib.hid (by rw [<-hw1];exact Arr.new _ (V zero49) _ (by simp))
 have B1:Hid (Below w.heap.size w w1):=Lib.hid (by rw [<-hw1];exact ((Below.refl _ _).alloc (Nat.le_refl _) _).alloc (by simp) _)
 have s1:w1.heap.size = w.heap.size + 2:=by rw [<-hw1];simp
 clear hw1
 refine wp_region_held_drew (S:=Hld w.heap.size w1.heap.size w1 [(w.heap.size,(V (gl (ext r) (ext u) n)))]) (by kernel_rfl) ((Hld.start1 A0.out).lower (by omega)) (fun hHeld=>?_)
 have b1:Below w1.heap.size w1 w1.drew:=⟨rfl,rfl,rfl,Nat.le_refl _,fun _ _=>rfl⟩
 generalize w1.drew = w2 at *
 have s2:=b1.size
 replace A1:=Lib.hid (A1.out.keep b1 A1.out.lt)
 replace B1:=Lib.hid (B1.out.trans (b1.mono B1.out.size))
 clear b1 A0
 refine wpAnyH_take (i:=0) (v:=.pointer (some ⟨w.heap.size,24,none⟩)) rfl (by kernel_rfl) (by kernel_rfl) (by kernel_rfl) (fun _ _ _ h=>h) (Or.inl ⟨by rfl,fun w hSw=>by go_simp⟩) hHeld ?_
 refine wpAnyH_take (i:=2) (v:=.pointer (some ⟨w.heap.size,0,none⟩)) rfl (by kernel_rfl) (by kernel_rfl) (by kernel_rfl) (fun _ _ _ h=>h) (Or.inl ⟨by rfl,fun w hSw=>by go_simp⟩) hHeld ?_
 refine wpAnyH_take (i:=5) (v:=.pointer (some ⟨w.heap.size,48,none⟩)) rfl (by kernel_rfl) (by kernel_rfl) (by kernel_rfl) (fun _ _ _ h=>h) (Or.inl ⟨by rfl,fun w hSw=>by go_simp⟩) hHeld ?_
 refine wpAnyH_take (i:=1) (v:=.agg (V (ext u)).toArray) rfl (by kernel_rfl) (by kernel_rfl) (by kernel_rfl) (fun _ _ _ h=>h) (yieldsIf_load_mid (by rfl) _ _ rfl (w.heap.size) 24 rfl (V (ext u)) _ (fun w h=>rg_up (ext_len _) (ext_len _) h.fst) sqp.underlying60 rfl (hi24 (ext_len _))) hHeld ?_
 refine wpAnyH_take (i:=3) (v:=.agg (V (ext r)).toArray) rfl (by kernel_rfl) (by kernel_rfl) (by kernel_rfl) (fun _ _ _ h=>h) (yieldsIf_load_mid (by rfl) _ _ rfl (w.heap.size) 0 rfl (V (ext r)) _ (fun w h=>rg_right (ext_len _) h.fst) sqp.underlying60 rfl (hi24 (ext_len _))) hHeld ?_
 refine wpAnyH_take (i:=6) (v:=.int .i64 n) rfl (by kernel_rfl) (by kernel_rfl) (by kernel_rfl) (fun _ _ _ h=>h) (Or.inl ⟨by rfl,fun w hSw=>by have:=rg_count (ext_len _) (ext_len _) hSw.fst;go_simp⟩) hHeld ?_
 refine wpAnyH_ready (rs:=[4]) (by kernel_rfl) (by simp) (AllReadyH.cons rfl (fun K hK=>?_) AllReadyH.nil)
 go_simp
 refine (inverse_any (ext r) _ RS.out).mono ?_
 rintro e w' ⟨rfl,b1⟩
 rw [ER.out]
 replace A1:=Lib.hid (A1.out.keep b1 A1.out.lt)
 replace B1:=Lib.hid (B1.out.trans (b1.mono B1.out.size))
 go_wp2_with fail
 have hHeld2:=hHeld.later b1 (by omega);clear b1 hHeld
 refine hK.out _ _ hHeld2 (fun hHeld=>?_)
 clear hK K hHeld2
 refine wpAnyH_ready (rs:=[7]) (by kernel_rfl) (by simp) (AllReadyH.cons rfl (fun K hK=>?_) AllReadyH.nil)
 refine step_build rfl 62 _ rfl [(0,.agg (V (ext u)).toArray),(1,.agg (V (ext (Inv r))).toArray),(2,.int .i64 n)] rfl (V (gl (ext u) (ext (Inv r)) n)).toArray (built_gl (ext_len _) (ext_len _) n) ?_
 refine hK.out _ _ hHeld (fun hHeld2=>?_)
 clear hK K hHeld2
 refine wpAnyH_ready (rs:=[8]) (by kernel_rfl) (by simp) (AllReadyH.cons rfl (fun K hK=>?_) AllReadyH.nil)
 refine step_store_row rfl 62 _ _ rfl (w.heap.size + 1) (V (gl (ext u) (ext (Inv r)) n)).toArray rfl rfl 62 (V zero49).toArray A1.out (size49 (gl_len (ext_len _) (ext_len _) n)) (by simp [V_len,gl_len,ext_len,zero49]) (one_V _) ?_
 refine hK.out _ _ (hHeld.other (by omega) (by simp) _) (fun hHeld2=>?_)
 clear hK K hHeld2
 refine wpAnyH_done (by kernel_rfl) ?_ _
 go_wp2_with fail
 exact bodyPost_ret (v:=.agg (V (gl (ext u) (ext (Inv r)) n)).toArray) (results_cell_row rfl _ _ (w.heap.size + 1) 62 (V (gl (ext u) (ext (Inv r)) n)).toArray (0,0) _ rfl A1.out.row sqp.underlying62 rfl (size49 (gl_len (ext_len _) (ext_len _) n))) rfl ⟨rfl,below_setRow B1.out (by omega) _⟩
def fTab:List Value:=[.func (.func 129) #[] #[],.func (.func 130) #[] #[],.func (.func 131) #[] #[],.func (.func 132) #[] #[]]
theorem sizeF:(sqp.prog.info? 135).map (·.size) = some fTab.toArray.size:=by kernel_rfl
set_option maxHeartbeats 1000000 in
theorem acts_any (w:World):Calls sqp.prog 96 #[] w fun e w'=>e = .returned (.agg fTab.toArray)/\Below w.heap.size w w':=by
 go_enter sqp.func96,sqp.ntmps96
 go_wp2_with (refine wpList_store_row rfl 135 _ _ rfl w.heap.size fTab.toArray rfl rfl 135 #[.nilFunc,.nilFunc,.nilFunc,.nilFunc] (Arr.new w [.nilFunc,.nilFunc,.nilFunc,.nilFunc] _ rfl) sizeF rfl (by simp [fTab,Value.oneCell']) ?_)
 exact bodyPost_ret (v:=.agg fTab.toArray) (results_cell_row rfl _ _ w.heap.size 135 fTab.toArray (0,0) _ rfl (Arr.new w [.nilFunc,.nilFunc,.nilFunc,.nilFunc] 135 rfl).row sqp.underlying135 rfl sizeF) rfl ⟨rfl,below_setRow ((Below.refl _ _).alloc (Nat.le_refl _) _) (Nat.le_refl _) _⟩
def letN (z:Int) (s:Sur):Sur:=if z = 0 then shearS s else if z = 1 then unshearS s else if z = 2 then turnS s else unturnS s
def runN (L:List Int) (s:Sur):Sur:=L.foldl (fun s z=>letN z s) s
theorem letN_sf {n:Nat} {R U:List Int} (s:Sf n R U) (z:Int):Sf n (letN z (R,U)).1 (letN z (R,U)).2:=by
 unfold letN
 split
 ·exact shear_sf s
 ·split
  ·exact unshear_sf s
  ·split
   ·exact turn_sf s
   ·exact unturn_sf s
theorem runN_sf {n:Nat}:∀ (L:List Int) (s:Sur),Sf n s.1 s.2->Sf n (runN L s).1 (runN L s).2:=by
 intro L
 induction L with
 | nil=>intro s h;exact h
 | cons c L ih=>intro s h;exact ih (letN c s) (letN_sf (R:=s.1) (U:=s.2) h c)
theorem runN_take {L:List Int} {k:Nat} {x:Int} (hx:L[k]? = some x) (s:Sur):runN (L.take (k + 1)) s = letN x (runN (L.take k) s):=by
 unfold runN
 rw [List.take_add_one,hx,List.foldl_append]
 rfl
theorem lit_any (z:Nat) (hz:z<=3) (r u:List Int) (n:Nat) (w:World) (hs:Sf n r u) :
  ∃ f:Nat,fTab[z]? = some (.func (.func f) #[] #[])/\(∀ args W,(callFunc f args).run sqp.prog W = .ok (.enter f args) W)/\Calls sqp.prog f #[.agg (V (gl (ext r) (ext u) n)).toArray] w fun e w'=>e = .returned (.agg (V (gl (ext (letN (z:Int) (r,u)).1) (ext (letN (z:Int) (r,u)).2) n)).toArray)/\Below w.heap.size w w':=by
 match z,hz with
 | 0,_=>exact ⟨_,rfl,enters_of sqp.func129 (by kernel_rfl) rfl,lit1 r u n w hs⟩
 | 1,_=>exact ⟨_,rfl,enters_of sqp.func130 (by kernel_rfl) rfl,lit2 r u n w hs⟩
 | 2,_=>exact ⟨_,rfl,enters_of sqp.func131 (by kernel_rfl) rfl,lit3 r u n w hs⟩
 | 3,_=>exact ⟨_,rfl,enters_of sqp.func132 (by kernel_rfl) rfl,lit4 r u n w hs⟩
theorem still_take {P:Program} {ops:Array Oper} {w:World} {Q:Act->Prop} {a:Act} {o:Oper} {rest:List Oper} {v:Value} (hy:YieldsIf P ops (fun W=>W = w) o v a) (h:wpStill P ops w Q rest (a.put o.dst v)):wpStill P ops w Q (o :: rest) a:=by
 unfold wpStill
 rcases hy with ⟨hw,hv⟩ | ⟨hw,rfl⟩
 ·rw [if_pos hw]
  unfold Oper.still
  rw [hv w rfl,Oper.stillUpon_value]
  exact h
 ·rw [if_neg (by rw [hw];decide)]
  exact h
structure AR (w wr:World) (B5:Nat) (p:List Int):Prop where
 g:Arr wr w.heap.size (V p) 62
 res:Arr wr (w.heap.size + 1) (V zero49) 62
 tab:Arr wr B5 fTab 135
 hB:w.heap.size + 1 < B5
 bel:Below w.heap.size w wr
set_option maxHeartbeats 4000000 in
theorem after_any (r u:List Int) (n:Nat) (A:Option Addr) (m c:Nat) (L:List Int) (hi:Nat) (w:World) (hL:Rd w hi A m (V L)) (hh:hi<=w.heap.size) (h3:∀ l ∈ L,0<=l/\l<=3) (hs:Sf n r u) (hm:m<=40) :
  Calls sqp.prog 73 #[.agg (V (gl (ext r) (ext u) n)).toArray,.slice A m c] w fun e w'=>e = .returned (.agg (V (gl (ext (runN L (r,u)).1) (ext (runN L (r,u)).2) n)).toArray)/\Below w.heap.size w w':=by
 have HS:=Lib.hid hs;have HL:=Lib.hid hL;have H3:=Lib.hid h3;have LL:Hid (L.length = m):=Lib.hid (by simpa [V] using hL.1)
 clear hs hL h3
 go_enter sqp.func73,sqp.ntmps73
 go_wp2_with fail
 generalize hw1:(w.alloc (.cells (V (gl (ext r) (ext u) n)).toArray 62)).alloc (.cells #[.int .i64 0,.int .i64 0,.int .i64 0,.int .i64 0,.int .i64 0,.int .i64 0,.int .i64 0,.int .i64 0,.int .i64 0,.int .i64 0,.int .i64 0,.int .i64 0,.int .i64 0,.int .i64 0,.int .i64 0,.int .i64 0,.int .i64 0,.int .i64 0,.int .i64 0,.int .i64 0,.int .i64 0,.int .i64 0,.int .i64 0,.int .i64 0,.int .i64 0,.int .i64 0,.int .i64 0,.int .i64 0,.int .i64 0,.int .i64 0,.int .i64 0,.int .i64 0,.int .i64 0,.int .i64 0,.int .i64 0,.int .i64 0,.int .i64 0,.int .i64 0,.int .i64 0,.int .i64 0,.int .i64 0,.int .i64 0,.int .i64 0,.int .i64 0,.int .i64 0,.int .i64 0,.int .i64 0,.int .i64 0,.int .i64 0] 62) = w1
 have A0:Hid (Arr w1 w.heap.size (V (gl (ext r) (ext u) n)) 62):=Lib.hid (by rw [<-hw1];exact (Arr.new w _ _ rfl).alloc _)
 have A1:Hid (Arr w1 (w.heap.size + 1) (V zero49) 62):=Lib.hid (by rw [<-hw1];exact Arr.new _ (V zero49) _ (by simp))
 have B1:Hid (Below w.heap.size w w1):=Lib.hid (by rw [<-hw1];exact ((Below.refl _ _).alloc (Nat.le_refl _) _).alloc (by simp) _)
 have s1:w1.heap.size = w.heap.size + 2:=by rw [<-hw1];simp
 clear hw1
 refine (acts_any _).mono ?_
 rintro e w2 ⟨rfl,b1⟩
 have s2:=b1.size
 replace A0:=Lib.hid (A0.out.keep b1 A0.out.lt)
 replace A1:=Lib.hid (A1.out.keep b1 A1.out.lt)
 replace B1:=Lib.hid (B1.out.trans (b1.mono B1.out.size))
 clear b1
 go_wp2_with (refine wpList_store_row rfl 135 _ _ rfl w2.heap.size fTab.toArray rfl rfl 135 #[.nilFunc,.nilFunc,.nilFunc,.nilFunc] (Arr.new w2 [.nilFunc,.nilFunc,.nilFunc,.nilFunc] _ rfl) sizeF rfl (by simp [fTab,Value.oneCell']) ?_)
 generalize hw3:(w2.alloc (.cells #[.nilFunc,.nilFunc,.nilFunc,.nilFunc] 135)).setRow w2.heap.size fTab.toArray = w3
 have A5:Hid (Arr w3 w2.heap.size fTab 135):=Lib.hid (by rw [<-hw3];exact (Arr.new w2 [.nilFunc,.nilFunc,.nilFunc,.nilFunc] _ rfl).row)
 have b1:Below w2.heap.size w2 w3:=by rw [<-hw3];exact below_setRow ((Below.refl _ _).alloc (Nat.le_refl _) _) (Nat.le_refl _) _
 clear hw3
 have hAR:AR w w3 w2.heap.size (gl (ext r) (ext u) n):=⟨A0.out.keep b1 A0.out.lt,A1.out.keep b1 A1.out.lt,A5.out,by omega,B1.out.trans (b1.mono B1.out.size)⟩
 clear A0 A1 A5 B1 b1
 have HAR:=Lib.hid hAR;clear hAR
 go_loopw [11] (fun i wr=>∃ k:Nat,k<=m/\i = .int .i64 k/\AR w wr w2.heap.size (gl (ext (runN (L.take k) (r,u)).1) (ext (runN (L.take k) (r,u)).2) n)) (fun i _=>m - (intOf i).toNat)
 case atStart=>exact ⟨0,Nat.zero_le _,rfl,HAR.out⟩
 case round =>
  clear HAR
  obtain ⟨k,hk,rfl,hr⟩:=hrel
  have HR:=Lib.hid hr;clear hr
  by_cases hlt:k < m
  ·obtain ⟨x,hx⟩:∃ x,L[k]? = some x:=⟨L[k]'(by rw [LL.out];exact hlt),List.getElem?_eq_getElem _⟩
   have h03:=H3.out x (List.mem_of_getElem? hx)
   obtain ⟨z,rfl⟩:=Int.eq_ofNat_of_zero_le h03.1
   have hz3:z<=3:=by have:=h03.2;omega
   have ST:=Lib.hid (runN_take hx (r,u))
   have SK:=Lib.hid (runN_sf (L.take k) (r,u) HS.out)
   have RD:=HL.out.keep HR.out.bel hh
   obtain ⟨go,oo,uo,rfl,hgo,huo,hco⟩:=RD.at_ hlt
   rw [V_get hx] at huo
   obtain rfl:=Option.some.inj huo
   clear RD huo h03 hx
   obtain ⟨rk,hrk⟩:∃ q,q = runN (L.take k) (r,u):=⟨_,rfl⟩
   rw [<-hrk] at HR ST SK
   clear hrk
   obtain ⟨ru,uu⟩:=rk
   have hBw:w2.heap.size < wr.heap.size:=HR.out.tab.lt
   have hB:=HR.out.hB
   obtain ⟨f,hf,hen,hc⟩:=lit_any z hz3 ru uu n wr.drew SK.out
   have HC:=Lib.hid hc;have HF:=Lib.hid hf;have HE:=Lib.hid hen;clear hf hc hen
   go_wp2_with fail
   refine wp_region_still_tail 4 (by kernel_rfl) (by kernel_rfl) ?_
   simp only [List.take_succ_cons,List.take_zero,List.drop_succ_cons,List.drop_zero]
   have b1:Below wr.heap.size wr wr.drew:=⟨rfl,rfl,rfl,Nat.le_refl _,fun _ _=>rfl⟩
   change wpStill _ _ wr.drew _ _ _
   have AF:Hid (AR w wr.drew w2.heap.size (gl (ext ru) (ext uu) n)):=Lib.hid ⟨HR.out.g.keep b1 HR.out.g.lt,HR.out.res.keep b1 HR.out.res.lt,HR.out.tab.keep b1 HR.out.tab.lt,hB,HR.out.bel.trans (b1.mono HR.out.bel.size)⟩
   have s_:=b1.size
   generalize hw4:wr.drew = w4 at *
   clear b1 HR
   refine still_take (v:=.int .i64 (z:Int)) (Or.inl ⟨by rfl,fun w hSw=>by go_simp⟩) ?_
   refine still_take (v:=.pointer (some ⟨w2.heap.size,z,none⟩)) (Or.inl ⟨by rfl,fun w hSw=>by go_simp;intro h4;exact absurd h4 (by omega)⟩) ?_
   refine still_take (v:=.func (.func f) #[] #[]) (Or.inl ⟨by rfl,fun W hSw=>by subst hSw;have hc:=AF.out.tab.cell HF.out;go_simp⟩) ?_
   refine still_take (v:=.agg (V (gl (ext ru) (ext uu) n)).toArray) (yieldsIf_load_mid (by rfl) _ _ rfl (w.heap.size) 0 rfl (V (gl (ext ru) (ext uu) n)) _ (fun W h=>by subst h;exact fun j v hv=>by rw [Nat.zero_add];exact AF.out.g.cell hv) sqp.underlying62 rfl (hi49 (gl_len (ext_len _) (ext_len _) _))) ?_
   refine wpStill_nil ?_
   change wpList _ _ _ _ _ wr.drew
   rw [hw4]
   clear hw4
   have hE:=HE.out
   go_wp2_with fail
   refine HC.out.mono ?_
   rintro e w5 ⟨rfl,b1⟩
   have s5:=b1.size
   have GL:=Lib.hid (gl_len (ext_len (letN (z:Int) (ru,uu)).1) (ext_len (letN (z:Int) (ru,uu)).2) n)
   replace AF:Hid (AR w w5 w2.heap.size (gl (ext ru) (ext uu) n)):=Lib.hid ⟨AF.out.g.keep b1 AF.out.g.lt,AF.out.res.keep b1 AF.out.res.lt,AF.out.tab.keep b1 AF.out.tab.lt,hB,AF.out.bel.trans (b1.mono AF.out.bel.size)⟩
   clear b1 hE HE HC HF
   go_wp2_with (refine wpList_store_row rfl 62 _ _ rfl w.heap.size (V (gl (ext (letN (z:Int) (ru,uu)).1) (ext (letN (z:Int) (ru,uu)).2) n)).toArray rfl rfl 62 (V (gl (ext ru) (ext uu) n)).toArray AF.out.g (size49 GL.out) (by simp [V_len,GL.out,gl_len,ext_len]) (one_V _) ?_)
   have HN:Hid (AR w (w5.setRow w.heap.size (V (gl (ext (letN (z:Int) (ru,uu)).1) (ext (letN (z:Int) (ru,uu)).2) n)).toArray) w2.heap.size (gl (ext (runN (L.take (k + 1)) (r,u)).1) (ext (runN (L.take (k + 1)) (r,u)).2) n)):=Lib.hid (by
    rw [ST.out]
    exact ⟨AF.out.g.row,AF.out.res.rowOther (by omega),AF.out.tab.rowOther (by omega),hB,below_setRow AF.out.bel (Nat.le_refl _) _⟩)
   generalize w5.setRow w.heap.size (V (gl (ext (letN (z:Int) (ru,uu)).1) (ext (letN (z:Int) (ru,uu)).2) n)).toArray = w6 at *
   clear AF
   go_wp2_with fail
   go_roundw
   case rel=>exact ⟨k + 1,by omega,by go_num,HN.out⟩
   case measure=>simp [intOf];omega
  ·obtain rfl:k = m:=by omega
   have e:L.take k = L:=List.take_of_length_le (by rw [LL.out];exact Nat.le_refl _)
   rw [e] at HR;clear e
   have GL:=Lib.hid (gl_len (ext_len (runN L (r,u)).1) (ext_len (runN L (r,u)).2) n)
   go_wp2_with (first | (refine wpList_load_row rfl 62 _ rfl w.heap.size rfl 62 (V (gl (ext (runN L (r,u)).1) (ext (runN L (r,u)).2) n)).toArray (0,0) _ HR.out.g sqp.underlying62 rfl (size49 GL.out) ?_) | (refine wpList_store_row rfl 62 _ _ rfl (w.heap.size + 1) (V (gl (ext (runN L (r,u)).1) (ext (runN L (r,u)).2) n)).toArray rfl rfl 62 (V zero49).toArray HR.out.res (size49 GL.out) (by simp [V_len,GL.out,zero49]) (one_V _) ?_))
   exact bodyPost_ret (v:=.agg (V (gl (ext (runN L (r,u)).1) (ext (runN L (r,u)).2) n)).toArray) (results_cell_row rfl _ _ (w.heap.size + 1) 62 (V (gl (ext (runN L (r,u)).1) (ext (runN L (r,u)).2) n)).toArray (0,0) _ rfl HR.out.res.row sqp.underlying62 rfl (size49 GL.out)) rfl ⟨rfl,below_setRow HR.out.bel (by omega) _⟩
end Go.Proofs.Ytgcnemkhppkkcaa.la

namespace Go.Proofs.Ytgcnemkhppkkcaa.orb
open Go.ChangeShapes Go.WideShapes Go.ChangeAt Go.RowKit
open mem ints arr pm sf
set_option linter.unusedVariables false
set_option maxRecDepth 100000
theorem same_eq {r u r' u':List Int}:sameF r u r' u' = decide ((r,u) = (r',u')):=by
 unfold sameF eqi
 by_cases h1:r = r' <;> by_cases h2:u = u' <;> simp [h1,h2]
end Go.Proofs.Ytgcnemkhppkkcaa.orb

namespace Go.Proofs.Ytgcnemkhppkkcaa.orb
open Go.ChangeShapes Go.WideShapes Go.ChangeAt Go.RowKit
open mem ints arr pm sf
set_option linter.unusedVariables false
set_option maxRecDepth 100000
structure Rw1 (w:World) (lo hi:Nat) (ex:Nat->Prop) (b:Nat) (h:Value) (xs:List Int):Prop where
 lo_:lo<=b
 hi_:b < hi
 ex_:¬ ex b
 row:∃ P c,h = .slice P xs.length c/\xs.length<=c/\0 < xs.length/\Row w b (b + 1) P xs.length (V xs)
structure Ls (w:World) (lo hi:Nat) (ex:Nat->Prop) (bl:Nat->Nat × Nat) (hs:List Value) (L:List Sur):Prop where
 len:hs.length = L.length * 2
 top:hi<=w.heap.size
 row:∀ (k:Nat) (s:Sur),L[k]? = some s->∃ a b,hs[k * 2]? = some a/\hs[k * 2 + 1]? = some b/\Rw1 w lo hi ex (bl k).1 a s.1/\Rw1 w lo hi ex (bl k).2 b s.2/\(bl k).1 ≠ (bl k).2
 ne:∀ i j,i < L.length->j < L.length->i ≠ j->(bl i).1 ≠ (bl j).1/\(bl i).1 ≠ (bl j).2/\(bl i).2 ≠ (bl j).2
structure Os (w0 w:World) (base hi:Nat) (v u:Value) (q:LW):Prop where
 ex:∃ hs bl,w.ownsRow base 25 2 v q.1.length hs/\Ls w base hi (fun b=>v.ownBlock = some b\/u.ownBlock = some b) bl hs q.1
 own:w.ownsRow base 9 1 u q.2.length (q.2.map fun x=>Value.string ⟨x.toArray⟩)
 sep:∀ b,v.ownBlock = some b->¬ u.ownBlock = some b
 vlt:∀ b,v.ownBlock = some b->b < hi
 ult:∀ b,u.ownBlock = some b->b < hi
 bel:Below base w0 w
 low:base<=hi
 top:hi<=w.heap.size
theorem own_block_keep {w w':World} {base:Nat} {e:TypeId} {size n:Nat} {v:Value} {xs:List Value} (h:w.ownsRow base e size v n xs) (hb:∀ b,v.ownBlock = some b->w'.heap[b]? = w.heap[b]?):w'.ownsRow base e size v n xs:=by
 refine ⟨h.1,?_⟩
 rcases h.2 with q | ⟨g,cap,cur,q1,q2,q3,q4⟩
 ·exact .inl q
 ·exact .inr ⟨g,cap,cur,q1,q2,by rw [hb g (by rw [q1];rfl)];exact q3,q4⟩
end Go.Proofs.Ytgcnemkhppkkcaa.orb
