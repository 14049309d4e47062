import Derived.Test.YtcdclihinmdgiaaZ04
import Derived.Test.YtcdclihinmdgiaaZ09
import Derived.Test.YtcdclihinmdgiaaZ07
namespace Go.Proofs.Ytcdclihinmdgiaa.orb
open Go.ChangeShapes Go.WideShapes Go.ChangeAt Go.RowKit
open mem ints arr pm sf mat
set_option linter.unusedVariables false
set_option maxRecDepth 100000
set_option maxHeartbeats 2000000 in
theorem qrv (A:Option Addr) (n c:Nat) (xss:List (List Int)) (lo hi:Nat) (k:Int) (w:World)
  (hx:Mat w lo hi A (n * 2) xss) (hn:n<=1048576) (h1:1<=k) (h2:k<=1048576000) (tx:tot xss<=1048576) :
  Calls sqp.prog 22 #[.slice A n c,.int .i64 k] w fun e w'=>e = .returned (.int .i64 (k + tot xss))/\Mat w' lo hi A (n * 2) (qar k xss)/\Out lo hi w w':=by
 have LX:=Lib.hid hx.1
 have HX:=Lib.hid hx;clear hx
 go_enter sqp.func22,sqp.ntmps22
 go_wp2
 go_loopw [1,5] (fun q i wr=>∃ j:Nat,j<=n/\q = .int .i64 (k + tot (xss.take (j * 2)))/\i = .int .i64 j/\qu1 A (n * 2) lo hi k xss w wr (j * 2)) (fun _ i _=>n - (intOf i).toNat)
 case atStart=>exact ⟨0,Nat.zero_le _,by simp [tot],rfl,by rw [Nat.zero_mul,qu0];exact HX.out,Out.refl _ _ _⟩
 case round =>
  obtain ⟨j,hj,rfl,rfl,hm⟩:=hrel
  have HM:=Lib.hid hm;clear hm
  have hle:=qnx xss (j * 2)
  by_cases hlt:j < n
  ·obtain ⟨G,off,A1,c1,xs,l,u,rfl,hxk,hcx,rx,hset⟩:=HM.out.1.at_ (k:=j * 2) (by omega)
   rw [qxi (by rw [LX.out];omega)] at hxk
   have HXK:=Lib.hid hxk;have HS:=Lib.hid hset;have RX:=Lib.hid rx
   have b1:=qij hxk
   have TT:=Lib.hid (qfg hxk)
   clear hxk hset rx
   go_wp2_with fail
   refine (qnt A1 _ c1 (V xs) l u (k + tot (xss.take (j * 2))) _ RX.out (by omega) (by omega) (by omega)).mono ?_
   rintro e w1 ⟨rfl,r1,o1⟩
   have HN0:=HS.out w1 (Marks (k + tot (xss.take (j * 2))) xs.length) (qdz _ _) r1 o1
   rw [qny HXK.out] at HN0
   have HN:=Lib.hid HN0
   clear r1 o1 HN0 hcx RX HS
   have hle2:=qnx xss (j * 2 + 1)
   rw [TT.out] at hle2
   obtain ⟨G',off',A2,c2,ys,l2,u2,eA,hyk,hcy,ry,hset⟩:=HN.out.1.at_ (k:=j * 2 + 1) (by omega)
   simp at eA
   obtain ⟨rfl,rfl⟩:=eA
   rw [qxi (by rw [LX.out];omega)] at hyk
   have HYK:=Lib.hid hyk;have HS:=Lib.hid hset;have RY:=Lib.hid ry
   have b2:=qij hyk
   have TU:=Lib.hid (qfg hyk)
   rw [<-Nat.add_assoc] at hcy
   clear hyk hset ry
   go_wp2_with fail
   refine (qnt A2 _ c2 (V ys) l2 u2 (k + tot (xss.take (j * 2)) + xs.length) _ RY.out (by omega) (by omega) (by omega)).mono ?_
   rintro e w2 ⟨rfl,r2,o2⟩
   have TE:Hid (k + (tot (xss.take (j * 2)):Int) + (xs.length:Int) = k + (tot (xss.take (j * 2 + 1)):Int)):=Lib.hid (by rw [TT.out];omega)
   have HN2:Hid (Mat w2 lo hi (some ⟨G,off,none⟩) (n * 2) (mix k xss ((j + 1) * 2))/\Out lo hi w1 w2):=Lib.hid (by
    rw [TE.out] at r2
    have:=HS.out w2 (Marks (k + tot (xss.take (j * 2 + 1))) ys.length) (qdz _ _) r2 o2
    rw [qny HYK.out] at this
    rw [show (j + 1) * 2 = j * 2 + 1 + 1 by omega]
    exact this)
   clear r2 o2 hcy RY HS
   go_wp2_with fail
   go_roundw
   case rel =>
    refine ⟨j + 1,by omega,?_,by go_num,HN2.out.1,(HM.out.2.trans HN.out.2).trans HN2.out.2⟩
    rw [show (j + 1) * 2 = j * 2 + 1 + 1 by omega,TU.out,TT.out]
    go_num
   case measure=>simp [intOf];omega
  ·obtain rfl:j = n:=by omega
   have TT:Hid (tot (xss.take (j * 2)) = tot xss):=Lib.hid (by rw [List.take_of_length_le (by rw [LX.out];exact Nat.le_refl _)])
   go_wp2
   go_ret
   refine ⟨by rw [<-TT.out];rfl,?_,HM.out.2⟩
   rw [<-qza k xss LX.out]
   exact HM.out.1
set_option maxHeartbeats 2000000 in
theorem qrw (A:Option Addr) (n c:Nat) (xss:List (List Int)) (lo hi:Nat) (k:Int) (w:World)
  (hx:Mat w lo hi A (n * 2) (qar k xss)) (hn:n<=1048576) (h1:1<=k) (h2:k<=1048576000) (tx:tot xss<=1048576) :
  Calls sqp.prog 23 #[.slice A n c,.int .i64 k] w fun e w'=>e = .returned (.int .i64 (k + tot xss))/\qbg w w':=by
 have LX:Hid (xss.length = n * 2):=Lib.hid (by have:=hx.1;rw [qcz] at this;exact this)
 have HX:=Lib.hid hx;clear hx
 go_enter sqp.func23,sqp.ntmps23
 go_wp2
 go_loopw [1,5] (fun q i wr=>∃ j:Nat,j<=n/\q = .int .i64 (k + tot (xss.take (j * 2)))/\i = .int .i64 j/\qbg w wr) (fun _ i _=>n - (intOf i).toNat)
 case atStart=>exact ⟨0,Nat.zero_le _,by simp [tot],rfl,0,rfl⟩
 case round =>
  obtain ⟨j,hj,rfl,rfl,hb⟩:=hrel
  have HB:=Lib.hid hb;clear hb
  have hle:=qnx xss (j * 2)
  by_cases hlt:j < n
  ·have hxj:xss[j * 2]? = some (xss[j * 2]'(by rw [LX.out];omega)):=List.getElem?_eq_getElem _
   have hyj:xss[j * 2 + 1]? = some (xss[j * 2 + 1]'(by rw [LX.out];omega)):=List.getElem?_eq_getElem _
   generalize xss[j * 2]'(by rw [LX.out];omega) = xs at hxj
   generalize xss[j * 2 + 1]'(by rw [LX.out];omega) = ys at hyj
   obtain ⟨G,off,A1,c1,xs',l,u,rfl,hxk,hcx,rx,_⟩:=HX.out.at_ (k:=j * 2) (by omega)
   rw [qf5 xss k _ xs hxj] at hxk
   obtain rfl:=Option.some.inj hxk
   rw [qdz] at rx hcx
   obtain ⟨G',off',A2,c2,ys',l2,u2,eA,hyk,hcy,ry,_⟩:=HX.out.at_ (k:=j * 2 + 1) (by omega)
   simp at eA
   obtain ⟨rfl,rfl⟩:=eA
   rw [qf5 xss k _ ys hyj] at hyk
   obtain rfl:=Option.some.inj hyk
   rw [qdz] at ry hcy
   rw [<-HB.out.cell] at hcx hcy
   rw [<-Nat.add_assoc] at hcy
   have RX:Hid (Row wr l u A1 xs.length (V (Marks (k + tot (xss.take (j * 2))) xs.length))):=Lib.hid (by obtain ⟨q,rfl⟩:=HB.out;exact rx)
   have TT:=Lib.hid (qfg hxj)
   have TU:=Lib.hid (qfg hyj)
   have TE:Hid (k + (tot (xss.take (j * 2 + 1)):Int) = k + (tot (xss.take (j * 2)):Int) + (xs.length:Int)):=Lib.hid (by rw [TT.out];omega)
   have RY:Hid (Row w l2 u2 A2 ys.length (V (Marks (k + tot (xss.take (j * 2)) + xs.length) ys.length))):=Lib.hid (by rw [<-TE.out];exact ry)
   have b1:=qij hxj;have b2:=qij hyj
   have hle2:=qnx xss (j * 2 + 1)
   rw [TT.out] at hle2
   clear hxk hyk rx ry hxj hyj
   go_wp2_with fail
   refine (qnu A1 _ c1 l u (k + tot (xss.take (j * 2))) _ RX.out (by omega) (by omega) (by omega)).mono ?_
   rintro e w1 ⟨rfl,d1⟩
   have HN:=Lib.hid (qdq HB.out d1)
   have hcy1:w1.cell? ⟨G,off + j * 2 + 1,none⟩ = some (.slice A2 ys.length c2):=by rw [d1.cell];exact hcy
   have RY1:Hid (Row w1 l2 u2 A2 ys.length (V (Marks (k + tot (xss.take (j * 2)) + xs.length) ys.length))):=Lib.hid (by obtain ⟨q,rfl⟩:=HN.out;exact RY.out)
   clear d1 hcx hcy RX RY
   go_wp2_with fail
   refine (qnu A2 _ c2 l2 u2 (k + tot (xss.take (j * 2)) + xs.length) _ RY1.out (by omega) (by omega) (by omega)).mono ?_
   rintro e w2 ⟨rfl,d2⟩
   have HN2:=Lib.hid (qdq HN.out d2)
   clear d2 hcy1 RY1
   go_wp2_with fail
   go_roundw
   case rel =>
    refine ⟨j + 1,by omega,?_,by go_num,HN2.out⟩
    rw [show (j + 1) * 2 = j * 2 + 1 + 1 by omega,TU.out,TT.out]
    go_num
   case measure=>simp [intOf];omega
  ·obtain rfl:j = n:=by omega
   have TT:Hid (tot (xss.take (j * 2)) = tot xss):=Lib.hid (by rw [List.take_of_length_le (by rw [LX.out];exact Nat.le_refl _)])
   go_wp2
   go_ret
   exact ⟨by rw [<-TT.out];rfl,HB.out⟩
end Go.Proofs.Ytcdclihinmdgiaa.orb

namespace Go.Proofs.Ytcdclihinmdgiaa.orb
open pm
set_option linter.unusedVariables false
set_option maxRecDepth 100000
structure Oj (n:Nat) (s:Sur) (k:Nat) (q:LW):Prop where
 oi:Oi n q
 head:q.1[0]? = some (cn s)
 word:∀ (i:Nat) (w:List UInt8) (x:Sur),q.2[i]? = some w->q.1[i]? = some x->w.all isL = true/\x = cn (q4o w s)
 nd:q.1.Nodup
 cl:∀ (i:Nat) (x:Sur),i < k->q.1[i]? = some x->stp 84 x ∈ q.1/\stp 83 x ∈ q.1
section
variable {n:Nat} {s:Sur} {q:LW} (hs:Sf n s.1 s.2) (h:Oj n s q.1.length q)
include hs h
end
end Go.Proofs.Ytcdclihinmdgiaa.orb

namespace Go.Proofs.Ytcdclihinmdgiaa.orb
open pm
set_option linter.unusedVariables false
set_option maxRecDepth 100000
def tup (m:Nat):Nat->List (List Int)
 | 0=>[[]]
 | k + 1=>(rng m).flatMap fun x=>(tup m k).map fun l=>x :: l
theorem qr7 {m:Nat}:∀ {k:Nat} {l:List Int},l.length = k->(∀ x ∈ l,0<=x/\x < m)->l ∈ tup m k
 | 0,l,h,_=>by
  have:=List.eq_nil_of_length_eq_zero h
  subst this
  simp [tup]
 | k + 1,l,h,hx=>by
  cases l with
  | nil=>simp at h
  | cons a l =>
   unfold tup
   refine List.mem_flatMap.2 ⟨a,qfw.2 (hx a (by simp)),List.mem_map.2 ⟨l,qr7 (by simpa using h) (fun x q=>hx x (List.mem_cons_of_mem _ q)),rfl⟩⟩
def prm (n:Nat):List (List Int):=(tup n n).filter okB
theorem qr8 {n:Nat} {l:List Int} (h:Ok l) (hl:l.length = n):l ∈ prm n:=by
 refine List.mem_filter.2 ⟨qr7 hl (fun x hx=>?_),h.b⟩
 obtain ⟨i,hi,rfl⟩:=List.mem_iff_getElem.1 hx
 have h1:=h.lo i hi;have h2:=h.hi i hi
 rw [List.getD_eq_getElem?_getD,List.getElem?_eq_getElem hi,Option.getD_some] at h1 h2
 omega
def frm (n:Nat):List Sur:=(prm n).flatMap fun R=>((prm n).filter fun U=>zh R U && decide (cn (R,U) = (R,U))).map fun U=>(R,U)
theorem qzf {n:Nat} {x:Sur} (h:Sf n x.1 x.2) (hc:cn x = x):x ∈ frm n:=by
 obtain ⟨R,U⟩:=x
 refine List.mem_flatMap.2 ⟨R,qr8 h.r h.lr,List.mem_map.2 ⟨U,List.mem_filter.2 ⟨qr8 h.u h.lu,?_⟩,rfl⟩⟩
 have ht:zh R U = true:=ku.2 (by rw [h.lr];exact h)
 simp [ht,hc]
end Go.Proofs.Ytcdclihinmdgiaa.orb

namespace Go.Proofs.Ytcdclihinmdgiaa.lst
open pm orb
set_option linter.unusedVariables false
set_option maxRecDepth 100000
def dn (n:Nat) (L:List (List Int)):List (List Int):=L.flatMap fun p=>((rng n).filter fun x=>!decide (x ∈ p)).map fun x=>p ++ [x]
def qfr (n:Nat):Nat->List (List Int)
 | 0=>[[]]
 | k + 1=>dn n (qfr n k)
def qbe:List Sur->Sur->Bool->List Sur
 | [],s,d=>if d then [] else [s]
 | x :: t,s,d=>if !(d || decide (x = s)) && bef s x then s :: x :: qbe t s true else x :: qbe t s (d || decide (x = s))
def qm4 (n:Nat) (acc:List Sur) (r u:List Int):List Sur:=if zh r u then qbe acc (can r u n) false else acc
def rowP (n:Nat) (acc:List Sur) (r:List Int) (U:List (List Int)):List Sur:=U.foldl (fun a u=>qm4 n a r u) acc
def qjj (n:Nat) (acc:List Sur) (R U:List (List Int)):List Sur:=R.foldl (fun a r=>rowP n a r U) acc
def swL (n:Nat):List Sur:=qjj n [] (qfr n n) (qfr n n)
def swF (n:Int):List Sur:=if 1<=n/\n<=4 then swL n.toNat else []
def asc:List Sur->Bool
 | []=>true
 | [_]=>true
 | a :: b :: t=>bef a b && asc (b :: t)
def q3d:Nat->Nat
 | 1=>1
 | 2=>3
 | 3=>7
 | 4=>26
 | _=>0
set_option maxRecDepth 100000 in
theorem qql:∀ n:Fin 4,(swL (n.val + 1)).length = q3d (n.val + 1)/\asc (swL (n.val + 1)) = true/\((swL (n.val + 1)).all fun x=>zh x.1 x.2 && decide (x.1.length = n.val + 1) && decide (cn x = x)) = true/\((frm (n.val + 1)).all fun x=>decide (x ∈ swL (n.val + 1))) = true:=by decide +kernel
structure Sw (n:Nat):Prop where
 len:(swL n).length = q3d n
 srt:asc (swL n) = true
 mem:∀ x,x ∈ swL n ↔ Sf n x.1 x.2/\cn x = x
theorem qt7 {n:Nat} (h1:1<=n) (h2:n<=4):Sw n:=by
 obtain ⟨a,b,c,d⟩:=qql ⟨n - 1,by omega⟩
 rw [show n - 1 + 1 = n by omega] at a b c d
 refine ⟨a,b,fun x=>⟨fun hx=>?_,fun ⟨hs,hc⟩=>?_⟩⟩
 ·have:=List.all_eq_true.1 c x hx
  simp only [Bool.and_eq_true,decide_eq_true_eq] at this
  obtain ⟨⟨t1,t2⟩,t3⟩:=this
  refine ⟨?_,t3⟩
  have:=ku.1 t1
  rwa [t2] at this
 ·have:=List.all_eq_true.1 d x (qzf hs hc)
  simpa using this
theorem Sw.num {n:Nat} (h:Sw n):(swL n).length<=26:=by
 rw [h.len]
 unfold q3d
 split <;> omega
end Go.Proofs.Ytcdclihinmdgiaa.lst

namespace Go.Proofs.Ytcdclihinmdgiaa.lst
open pm orb
set_option linter.unusedVariables false
set_option maxRecDepth 100000
def qhp (a:List Sur) (L:List Sur):List Sur:=L.foldl (fun a x=>qbe a x false) a
theorem qj5 {a L:List Sur} {k:Nat} {x:Sur} (h:L[k]? = some x):qhp a (L.take (k + 1)) = qbe (qhp a (L.take k)) x false:=by
 unfold qhp;rw [List.take_add_one,h,List.foldl_append];rfl
def orI (s:Sur):List Sur:=match orb s with
 | some q=>qhp [] q.1
 | none=>[]
theorem qup {s:Sur} {q:LW} (h:orb s = some q):orI s = qhp [] q.1:=by unfold orI;rw [h]
def isIn (acc:List (List Sur)) (s:Sur):Bool:=acc.any fun o=>decide (0<=fnd o s)
def y9 (acc:List (List Sur)) (s:Sur):List (List Sur):=if isIn acc s then acc else acc ++ [orI s]
def orL (n:Nat):List (List Sur):=(swL n).foldl y9 []
def orF (n:Int):List (List Sur):=if 1<=n/\n<=4 then orL n.toNat else []
def qyp:List Sur->Sur
 | []=>([],[])
 | x :: _=>x
def uq (acc:List (List Sur)) (s:Sur):List (List Sur):=if qyp (orI s) = s then acc ++ [orI s] else acc
set_option maxRecDepth 100000 in
theorem qpa:∀ n:Fin 4,(swL (n.val + 1)).foldl uq [] = orL (n.val + 1)/\((swL (n.val + 1)).all fun s=>(orb s).isSome && decide (0 < (orI s).length) && decide ((orI s).length<=26) && (orI s).all fun x=>zh x.1 x.2 && decide (x.1.length = n.val + 1)) = true:=by decide +kernel
structure Or1 (n:Nat) (s:Sur):Prop where
 orb:∃ q,orb s = some q/\orI s = qhp [] q.1
 pos:0 < (orI s).length
 le:(orI s).length<=26
 sf:∀ x ∈ orI s,Sf n x.1 x.2
theorem q1i {n:Nat} (h1:1<=n) (h4:n<=4):(swL n).foldl uq [] = orL n/\∀ s ∈ swL n,Or1 n s:=by
 obtain ⟨a,b⟩:=qpa ⟨n - 1,by omega⟩
 rw [show n - 1 + 1 = n by omega] at a b
 refine ⟨a,fun s hs=>?_⟩
 have:=List.all_eq_true.1 b s hs
 simp only [Bool.and_eq_true,decide_eq_true_eq] at this
 obtain ⟨⟨⟨q1,q2⟩,q3⟩,q4⟩:=this
 obtain ⟨q,hq⟩:=Option.isSome_iff_exists.1 q1
 refine ⟨⟨q,hq,qup hq⟩,q2,q3,fun x hx=>?_⟩
 have:=List.all_eq_true.1 q4 x hx
 simp only [Bool.and_eq_true,decide_eq_true_eq] at this
 obtain ⟨t1,t2⟩:=this
 have:=ku.1 t1
 rwa [t2] at this
theorem quq (acc:List (List Sur)) (s:Sur):(y9 acc s).length<=acc.length + 1:=by
 unfold y9;split
 ·omega
 ·simp
theorem qrj:∀ (L:List Sur) (acc:List (List Sur)),(L.foldl y9 acc).length<=acc.length + L.length
 | [],acc=>by simp
 | s :: L,acc=>by
  have h1:=qrj L (y9 acc s);have h2:=quq acc s
  simp only [List.foldl_cons,List.length_cons];omega
theorem qyq {n:Nat} (h1:1<=n) (h4:n<=4):(orL n).length<=26:=by
 have:=qrj (swL n) [];have h2:=(qt7 h1 h4).num
 unfold orL;simp at this;omega
theorem qrk {α β:Type} {f:β->α->β} {b:β} {L:List α} {k:Nat} {x:α} (h:L[k]? = some x):(L.take (k + 1)).foldl f b = f ((L.take k).foldl f b) x:=by
 rw [List.take_add_one,h,List.foldl_append];rfl
end Go.Proofs.Ytcdclihinmdgiaa.lst

namespace Go.Proofs.Ytcdclihinmdgiaa.lst
open Go.ChangeShapes Go.WideShapes Go.ChangeAt Go.RowKit
open mem ints arr pm sf mat orb
set_option linter.unusedVariables false
set_option maxRecDepth 100000
structure Sv (w:World) (base hi:Nat) (v:Value) (n:Nat) (hs:List Value) (iv:Nat->Nat × Nat) (R:Nat->Nat->Nat->Option Addr->Nat->Nat->Prop):Prop where
 own:w.ownsRow base 28 1 v n hs
 hl:hs.length = n
 top:hi<=w.heap.size
 vlt:∀ b,v.ownBlock = some b->b < hi
 row:∀ j,j < n->∃ A m c,hs[j]? = some (.slice A m c)/\base<=(iv j).1/\(iv j).2<=hi/\R j (iv j).1 (iv j).2 A m c/\∀ b,v.ownBlock = some b->b < (iv j).1\/(iv j).2<=b
 ord:∀ i j,i < j->j < n->(iv i).2<=(iv j).1
section
variable {w w':World} {base hi n:Nat} {v:Value} {hs:List Value} {iv:Nat->Nat × Nat} {R R':Nat->Nat->Nat->Option Addr->Nat->Nat->Prop}
theorem Sv.keep {B:Nat} (h:Sv w base hi v n hs iv R) (hb:Below B w w') (hB:hi<=B) (hr:∀ j l u A m c,u<=hi->R j l u A m c->R' j l u A m c):Sv w' base hi v n hs iv R' :=
 ⟨qg h.own (fun b e=>hb.block b (Nat.lt_of_lt_of_le (h.vlt b e) hB)),h.hl,Nat.le_trans h.top hb.size,h.vlt,fun j hj=>by
  obtain ⟨A,m,c,q1,q2,q3,q4,q5⟩:=h.row j hj
  exact ⟨A,m,c,q1,q2,q3,hr _ _ _ _ _ _ q3 q4,q5⟩,h.ord⟩
theorem Sv.out {lo' hi':Nat} (h:Sv w base hi v n hs iv R) (ho:Out lo' hi' w w') (hd:hi<=lo'\/hi'<=base) (hr:∀ j l u A m c,base<=l->u<=hi->R j l u A m c->R' j l u A m c):Sv w' base hi v n hs iv R' :=
 ⟨qg h.own (fun b e=>ho.block b (by have:=h.vlt b e;have:=h.top;omega) (by have:=h.vlt b e;have:=(h.own.lt b e).1;omega)),h.hl,Nat.le_trans h.top ho.size,h.vlt,fun j hj=>by
  obtain ⟨A,m,c,q1,q2,q3,q4,q5⟩:=h.row j hj
  exact ⟨A,m,c,q1,q2,q3,hr _ _ _ _ _ _ q2 q3 q4,q5⟩,h.ord⟩
theorem Sv.one {t:Nat} (h:Sv w base hi v n hs iv R) (ht:t < n) (ho:Out (iv t).1 (iv t).2 w w')
  (h1:∀ A m c,hs[t]? = some (.slice A m c)->R t (iv t).1 (iv t).2 A m c->R' t (iv t).1 (iv t).2 A m c) (h2:∀ j l u A m c,j ≠ t->(u<=(iv t).1\/(iv t).2<=l)->R j l u A m c->R' j l u A m c):Sv w' base hi v n hs iv R':=by
 obtain ⟨_,_,_,_,_,_,_,q5⟩:=h.row t ht
 refine ⟨qg h.own (fun b e=>ho.block b (by have:=h.vlt b e;have:=h.top;omega) (by have:=q5 b e;omega)),h.hl,Nat.le_trans h.top ho.size,h.vlt,fun j hj=>?_,h.ord⟩
 obtain ⟨A,m,c,p1,p2,p3,p4,p5⟩:=h.row j hj
 refine ⟨A,m,c,p1,p2,p3,?_,p5⟩
 by_cases e:j = t
 ·subst e;exact h1 _ _ _ p1 p4
 ·refine h2 _ _ _ _ _ _ e ?_ p4
  rcases Nat.lt_or_gt_of_ne e with q | q
  ·exact .inl (h.ord j t q ht)
  ·exact .inr (h.ord t j q hj)
theorem Sv.at_ {j:Nat} (h:Sv w base hi v n hs iv R) (hj:j < n):∃ g A m c c0,v = .slice (some ⟨g,0,none⟩) n c0/\g < w.heap.size/\w.cell? ⟨g,j,none⟩ = some (.slice A m c)/\hs[j]? = some (.slice A m c)/\base<=(iv j).1/\(iv j).2<=hi/\R j (iv j).1 (iv j).2 A m c:=by
 obtain ⟨A,m,c,q1,q2,q3,q4,_⟩:=h.row j hj
 rcases h.own.2 with ⟨q,q0⟩ | ⟨g,cap,cur,q,_,hh,_⟩
 ·omega
 ·subst q
  refine ⟨g,A,m,c,cap,rfl,(h.own.lt g rfl).2,?_,q1,q2,q3,q4⟩
  have:=h.own.cells (g:=g) rfl j _ q1
  rwa [add0,Nat.zero_add] at this
end
def RL (w:World) (LL:List (List Sur)) (j l u:Nat) (A:Option Addr) (m c:Nat):Prop:=∃ L,LL[j]? = some L/\m = L.length/\Lo w l u (.slice A m c) L
theorem RL.keep {w w':World} {LL:List (List Sur)} {j l u m c B:Nat} {A:Option Addr} (h:RL w LL j l u A m c) (hb:Below B w w') (hB:u<=B):RL w' LL j l u A m c:=by
 obtain ⟨L,h1,h2,h3⟩:=h;exact ⟨L,h1,h2,h3.keep hb hB⟩
theorem RL.out {w w':World} {LL:List (List Sur)} {j l u m c l' u':Nat} {A:Option Addr} (h:RL w LL j l u A m c) (ho:Out l' u' w w') (hd:u<=l'\/u'<=l):RL w' LL j l u A m c:=by
 obtain ⟨L,h1,h2,h3⟩:=h;exact ⟨L,h1,h2,h3.out ho hd⟩
def Slo (w:World) (base hi:Nat) (v:Value) (LL:List (List Sur)):Prop:=∃ hs iv,Sv w base hi v LL.length hs iv (RL w LL)
section
variable {w w':World} {base hi:Nat} {v:Value} {LL:List (List Sur)}
theorem Slo.keep {B:Nat} (h:Slo w base hi v LL) (hb:Below B w w') (hB:hi<=B):Slo w' base hi v LL:=by
 obtain ⟨hs,iv,s⟩:=h;exact ⟨hs,iv,s.keep hb hB (fun _ _ _ _ _ _ q r=>r.keep hb (Nat.le_trans q hB))⟩
theorem Slo.out {lo' hi':Nat} (h:Slo w base hi v LL) (ho:Out lo' hi' w w') (hd:hi<=lo'\/hi'<=base):Slo w' base hi v LL:=by
 obtain ⟨hs,iv,s⟩:=h;exact ⟨hs,iv,s.out ho hd (fun _ _ _ _ _ _ q1 q2 r=>r.out ho (by omega))⟩
theorem Slo.top (h:Slo w base hi v LL):hi<=w.heap.size:=by obtain ⟨hs,iv,s⟩:=h;exact s.top
theorem Slo.form (h:Slo w base hi v LL):∃ A c,v = .slice A LL.length c:=by obtain ⟨hs,iv,s⟩:=h;exact mem.za s.own
theorem Slo.nil (w:World) (base hi:Nat) (h:hi<=w.heap.size):Slo w base hi (.slice none 0 0) [] :=
 ⟨[],fun _=>(0,0),⟨rfl,.inl ⟨rfl,rfl⟩⟩,rfl,h,fun b e=>by simp [Value.ownBlock] at e,fun j hj=>absurd hj (Nat.not_lt_zero _),fun i j _ hj=>absurd hj (Nat.not_lt_zero _)⟩
theorem Slo.at_ {j:Nat} (h:Slo w base hi v LL) (hj:j < LL.length):∃ g A L c c0,v = .slice (some ⟨g,0,none⟩) LL.length c0/\g < w.heap.size/\w.cell? ⟨g,j,none⟩ = some (.slice A L.length c)/\LL[j]? = some L/\Lrd w w.heap.size (.slice A L.length c) L:=by
 obtain ⟨hs,iv,s⟩:=h
 obtain ⟨g,A,m,c,c0,e,hg,hc,_,_,_,L,h1,rfl,h3⟩:=s.at_ hj
 exact ⟨g,A,L,c,c0,e,hg,hc,h1,h3.lrd⟩
theorem Slo.at2 {j n c:Nat} {A:Option Addr} (h:Slo w base hi (.slice A n c) LL) (hj:j < n):∃ g A' L c',A = some ⟨g,0,none⟩/\g < w.heap.size/\w.cell? ⟨g,j,none⟩ = some (.slice A' L.length c')/\LL[j]? = some L/\Lrd w w.heap.size (.slice A' L.length c') L:=by
 obtain ⟨B,d,e⟩:=h.form
 injection e with e1 e2 e3
 subst e1;subst e2;subst e3
 obtain ⟨g,A',L,c',c0,e,q1,q2,q3,q4⟩:=h.at_ hj
 injection e with e1 e2 e3
 exact ⟨g,A',L,c',e1,q1,q2,q3,q4⟩
theorem Slo.len {n c:Nat} {A:Option Addr} (h:Slo w base hi (.slice A n c) LL):LL.length = n:=by
 obtain ⟨B,d,e⟩:=h.form
 injection e with e1 e2 e3
 exact e2.symm
def off (v:Value) (n:Nat) (iv:Nat->Nat × Nat) (x:Nat):Prop:=¬ v.ownBlock = some x/\∀ j,j < n->x < (iv j).1\/(iv j).2<=x
theorem Lo.blk {l u:Nat} {L:List Sur} (h:Lo w l u v L) (hz:w.heap.size<=w'.heap.size) (hb:∀ k,l<=k->k < u->w'.heap[k]? = w.heap[k]?):Lo w' l u v L:=by
 obtain ⟨hs',bl,o1,r,vl⟩:=h
 exact ⟨hs',bl,qg o1 (fun b eb=>hb b (o1.lt b eb).1 (vl b eb)),r.keep hz (fun b p1 p2 _=>hb b p1 p2),vl⟩
theorem Sv.blk {hs:List Value} {iv:Nat->Nat × Nat} (s:Sv w base hi v LL.length hs iv (RL w LL)) (hz:w.heap.size<=w'.heap.size) (hb:∀ k,k < w.heap.size->¬ off v LL.length iv k->w'.heap[k]? = w.heap[k]?):Sv w' base hi v LL.length hs iv (RL w' LL):=by
 have t:=s.top
 refine ⟨qg s.own (fun b e=>hb b (by have:=s.vlt b e;omega) (fun q=>q.1 e)),s.hl,Nat.le_trans t hz,s.vlt,fun j hj=>?_,s.ord⟩
 obtain ⟨A,m,c,q1,q2,q3,⟨L,e1,e2,e3⟩,q5⟩:=s.row j hj
 exact ⟨A,m,c,q1,q2,q3,⟨L,e1,e2,Lo.blk e3 hz fun k p1 p2=>hb k (by omega) (fun q=>by have:=q.2 j hj;omega)⟩,q5⟩
theorem Sv.wider {hs:List Value} {iv:Nat->Nat × Nat} {hi' n:Nat} {R:Nat->Nat->Nat->Option Addr->Nat->Nat->Prop} (s:Sv w base hi v n hs iv R) (h:hi<=hi') (ht:hi'<=w.heap.size):Sv w base hi' v n hs iv R :=
 ⟨s.own,s.hl,ht,fun b e=>Nat.lt_of_lt_of_le (s.vlt b e) h,fun j hj=>by
  obtain ⟨A,m,c,q1,q2,q3,q4,q5⟩:=s.row j hj
  exact ⟨A,m,c,q1,q2,Nat.le_trans q3 h,q4,q5⟩,s.ord⟩
theorem Sv.push {hs:List Value} {iv:Nat->Nat × Nat} {W w6:World} {l u c:Nat} {A:Option Addr} {L:List Sur} {g cap:Nat} (s:Sv w' base hi v LL.length hs iv (RL w' LL)) (hl:hi<=l) (hbl:base<=hi) (hlu:l<=u) (hu:u<=w'.heap.size) (hL:Lo w' l u (.slice A L.length c) L)
  (hw:Below w'.heap.size w' W) (ho:w6.ownsRow base 28 1 (.slice (some ⟨g,0,none⟩) (LL.length + 1) cap) (LL.length + 1) (hs ++ [.slice A L.length c])) (hg:W.grownBy w6 v.ownBlock) (hgb:v.ownBlock = some g\/g = W.heap.size) :
  ∃ iv',Sv w6 base w6.heap.size (.slice (some ⟨g,0,none⟩) (LL.length + 1) cap) (LL ++ [L]).length (hs ++ [.slice A L.length c]) iv' (RL w6 (LL ++ [L]))/\∀ x,x < l->off v LL.length iv x->off (.slice (some ⟨g,0,none⟩) (LL.length + 1) cap) (LL ++ [L]).length iv' x:=by
 have t1:=s.top;have t3:=hw.size;have t4:=hg.size
 have BK:∀ b,b < w'.heap.size->¬ v.ownBlock = some b->w6.heap[b]? = w'.heap[b]?:=fun b q1 q2=>(hg.block b (by omega) (fun e=>q2 e.symm)).trans (hw.block b q1)
 have OV:∀ b,v.ownBlock = some b->b < hi:=s.vlt
 refine ⟨fun j=>if j < LL.length then iv j else (l,u),⟨by simpa using ho,by simp [s.hl],Nat.le_refl _,fun b e=>?_,fun j hj=>?_,fun i j hij hj=>?_⟩,fun x hx hof=>⟨fun e=>?_,fun j hj=>?_⟩⟩
 ·exact (ho.lt b e).2
 ·rw [List.length_append,List.length_singleton] at hj
  by_cases e:j < LL.length
  ·obtain ⟨A',m,c',q1,q2,q3,⟨L',e1,e2,e3⟩,q5⟩:=s.row j e
   refine ⟨A',m,c',by rw [List.getElem?_append_left (by rw [s.hl];exact e)];exact q1,by simp only [if_pos e];exact q2,by simp only [if_pos e];omega,⟨L',by rw [List.getElem?_append_left e];exact e1,e2,?_⟩,fun b eb=>?_⟩
   ·simp only [if_pos e]
    exact Lo.blk e3 (by omega) fun b p1 p2=>BK b (by omega) (fun e'=>by have:=q5 b e';omega)
   ·simp only [if_pos e]
    have eb':g = b:=by simpa [Value.ownBlock] using eb
    rcases hgb with q | q
    ·exact q5 b (by rw [q,eb'])
    ·omega
  ·obtain rfl:j = LL.length:=by omega
   refine ⟨A,L.length,c,by rw [List.getElem?_append_right (by rw [s.hl];exact Nat.le_refl _),s.hl,Nat.sub_self];rfl,by simp only [if_neg e];omega,by simp only [if_neg e];omega,⟨L,by rw [List.getElem?_append_right (Nat.le_refl _),Nat.sub_self];rfl,rfl,?_⟩,fun b eb=>?_⟩
   ·simp only [if_neg e]
    exact Lo.blk hL (by omega) fun b p1 p2=>BK b (by omega) (fun e'=>by have:=OV b e';omega)
   ·simp only [if_neg e]
    have eb':g = b:=by simpa [Value.ownBlock] using eb
    rcases hgb with q | q
    ·have:=OV b (by rw [q,eb']);omega
    ·omega
 ·rw [List.length_append,List.length_singleton] at hj
  by_cases e:j < LL.length
  ·simp only [if_pos e,if_pos (Nat.lt_trans hij e)];exact s.ord i j hij e
  ·simp only [if_neg e,if_pos (show i < LL.length by omega)]
   obtain ⟨_,_,_,_,_,q3,_⟩:=s.row i (by omega)
   omega
 ·have e':g = x:=by simpa [Value.ownBlock] using e
  rcases hgb with q | q
  ·exact hof.1 (by rw [q,e'])
  ·omega
 ·rw [List.length_append,List.length_singleton] at hj
  by_cases e:j < LL.length
  ·simp only [if_pos e];exact hof.2 j e
  ·simp only [if_neg e];exact .inl hx
end
end Go.Proofs.Ytcdclihinmdgiaa.lst

namespace Go.Proofs.Ytcdclihinmdgiaa.lst
open Go.ChangeShapes Go.WideShapes Go.ChangeAt Go.RowKit
open mem ints arr pm sf mat orb
set_option linter.unusedVariables false
set_option maxRecDepth 100000
structure Few (LL:List (List Sur)):Prop where
 len:LL.length<=1048576
 each:∀ L ∈ LL,L.length<=1048576/\∀ s ∈ L,s.1.length<=1048576/\s.2.length<=1048576
 tot:(LL.map fun L=>tot (flat L)).sum<=1048576
def tl (LL:List (List Sur)):Nat:=(LL.map fun L=>mat.tot (flat L)).sum
theorem qlz {LL:List (List Sur)} {k:Nat} {L:List Sur} (h:LL[k]? = some L):tl (LL.take (k + 1)) = tl (LL.take k) + mat.tot (flat L):=by
 unfold tl;rw [List.take_add_one,h];simp
theorem qyr (LL:List (List Sur)) (k:Nat):tl (LL.take k)<=tl LL:=by
 unfold tl
 conv=>rhs;rw [<-List.take_append_drop k LL]
 rw [List.map_append,List.sum_append];omega
theorem qxd {LL:List (List Sur)} {k:Nat} {L:List Sur} (h:LL[k]? = some L):tl (LL.take k) + mat.tot (flat L)<=tl LL:=by
 rw [<-qlz h];exact qyr _ _
def qt2 (LL MM:List (List Sur)):Bool:=decide (LL = MM)
theorem qj6 (LL:List (List Sur)):qt2 LL LL = true:=by simp [qt2]
theorem qys {LL MM:List (List Sur)} {k:Nat} {L M:List Sur} (h1:LL[k]? = some L) (h2:MM[k]? = some M) (h:eqL L M = false):qt2 LL MM = false:=by
 unfold qt2;rw [decide_eq_false_iff_not];rintro rfl
 rw [h1] at h2
 obtain rfl:=Option.some.inj h2
 simp [eqL] at h
theorem qur {LL MM:List (List Sur)} {n:Nat} (h1:LL.length = n) (h2:MM.length = n) (h:∀ j,j < n->LL[j]? = MM[j]?):qt2 LL MM = true:=by
 unfold qt2;rw [decide_eq_true_iff]
 refine List.ext_getElem? fun i=>?_
 by_cases hi:i < n
 ·exact h i hi
 ·rw [List.getElem?_eq_none (by omega),List.getElem?_eq_none (by omega)]
theorem qus {LL MM:List (List Sur)} (h:LL.length ≠ MM.length):qt2 LL MM = false:=by
 unfold qt2;rw [decide_eq_false_iff_not];rintro rfl;exact h rfl
def qnn (LL MM:List (List Sur)) (w wr:World) (k:Nat):Prop:=Below w.heap.size w wr/\∀ j,j < k->LL[j]? = MM[j]?
theorem qnn.step {LL MM:List (List Sur)} {w wr w':World} {k:Nat} {L M:List Sur} (h:qnn LL MM w wr k) (hb:Below w.heap.size w w') (h1:LL[k]? = some L) (h2:MM[k]? = some M) (he:eqL L M = true):qnn LL MM w w' (k + 1):=by
 refine ⟨hb,fun j hj=>?_⟩
 by_cases e:j = k
 ·subst e
  have:L = M:=by simpa [eqL] using he
  rw [h1,h2,this]
 ·exact h.2 j (by omega)
set_option maxHeartbeats 2000000 in
theorem qnp (A:Option Addr) (n c:Nat) (B:Option Addr) (m d:Nat) (LL MM:List (List Sur)) (b1 h1 b2 h2:Nat) (w:World) (hx:Slo w b1 h1 (.slice A n c) LL) (hy:Slo w b2 h2 (.slice B m d) MM) (hL:Few LL) (hM:Few MM) :
  Calls sqp.prog 6 #[.slice A n c,.slice B m d] w fun e w'=>e = .returned (.bool (qt2 LL MM))/\Below w.heap.size w w':=by
 have LX:=Lib.hid hx.len;have LY:=Lib.hid hy.len
 have HX:=Lib.hid hx;have HY:=Lib.hid hy;have FL:=Lib.hid hL;have FM:=Lib.hid hM;clear hx hy
 have n1:n<=1048576:=by have:=hL.len;rw [LX.out] at this;exact this
 have n2:m<=1048576:=by have:=hM.len;rw [LY.out] at this;exact this
 clear hL hM
 by_cases hnm:n = m
 ·obtain rfl:m = n:=hnm.symm
  clear hnm
  go_enter sqp.func6,sqp.ntmps6
  go_wp2
  go_loopw [5] (fun i wr=>∃ k:Nat,k<=m/\i = .int .i64 k/\qnn LL MM w wr k) (fun i _=>m - (intOf i).toNat)
  case atStart=>exact ⟨0,Nat.zero_le _,rfl,Below.refl _ _,fun j hj=>by omega⟩
  case round =>
   obtain ⟨k,hk,rfl,hs⟩:=hrel
   have HS:=Lib.hid hs;clear hs
   have hsz:=HS.out.1.size
   by_cases hlt:k < m
   ·have HX1:=HX.out.keep (HS.out.1.mono HX.out.top) (Nat.le_refl _)
    have HY1:=HY.out.keep (HS.out.1.mono HY.out.top) (Nat.le_refl _)
    obtain ⟨g,A1,L,c1,rfl,hg,hc,hLk,rd⟩:=HX1.at2 hlt
    obtain ⟨g',A2,M,c2,rfl,hg',hc',hMk,rd'⟩:=HY1.at2 hlt
    have LK:=Lib.hid hLk;have MK:=Lib.hid hMk;have RD:=Lib.hid rd;have RD':=Lib.hid rd'
    have HC:=Lib.hid hc;have HC':=Lib.hid hc'
    have f1:=FL.out.each L (List.mem_of_getElem? hLk);have f2:=FM.out.each M (List.mem_of_getElem? hMk)
    clear hc hc' hLk hMk rd rd' HX1 HY1
    go_wp2
    refine wp_region_held_drew (S:=fun W=>Below wr.heap.size wr W) (by kernel_rfl) ⟨rfl,rfl,rfl,Nat.le_refl _,fun _ _=>rfl⟩ (fun hHeld=>?_)
    have b1:Below wr.heap.size wr wr.drew:=hHeld
    have SD:=Lib.hid (RD.out.keep b1 (Nat.le_refl _));have TD:=Lib.hid (RD'.out.keep b1 (Nat.le_refl _))
    generalize wr.drew = wd at *
    have ld1:∀ W,Below wr.heap.size wr W->W.cell? ⟨g,k,none⟩ = some (.slice A1 L.length c1):=fun W h=>by rw [Below.cell h (p:=⟨g,k,none⟩) hg];exact HC.out
    have ld2:∀ W,Below wr.heap.size wr W->W.cell? ⟨g',k,none⟩ = some (.slice A2 M.length c2):=fun W h=>by rw [Below.cell h (p:=⟨g',k,none⟩) hg'];exact HC'.out
    refine wpAnyH_take (i:=0) (v:=.slice (some ⟨g,0,none⟩) m c) rfl (by kernel_rfl) (by kernel_rfl) (by kernel_rfl) (fun _ _ _ h=>h) (Or.inl ⟨by rfl,fun w hSw=>by go_simp⟩) hHeld ?_
    refine wpAnyH_take (i:=1) (v:=.int .i64 k) rfl (by kernel_rfl) (by kernel_rfl) (by kernel_rfl) (fun _ _ _ h=>h) (Or.inl ⟨by rfl,fun w hSw=>by go_simp⟩) hHeld ?_
    refine wpAnyH_take (i:=4) (v:=.slice (some ⟨g',0,none⟩) m d) rfl (by kernel_rfl) (by kernel_rfl) (by kernel_rfl) (fun _ _ _ h=>h) (Or.inl ⟨by rfl,fun w hSw=>by go_simp⟩) hHeld ?_
    refine wpAnyH_take (i:=5) (v:=.int .i64 k) rfl (by kernel_rfl) (by kernel_rfl) (by kernel_rfl) (fun _ _ _ h=>h) (Or.inl ⟨by rfl,fun w hSw=>by go_simp⟩) hHeld ?_
    refine wpAnyH_take (i:=2) (v:=.pointer (some ⟨g,k,none⟩)) rfl (by kernel_rfl) (by kernel_rfl) (by kernel_rfl) (fun _ _ _ h=>h) (Or.inl ⟨by rfl,fun w hSw=>by go_simp⟩) hHeld ?_
    refine wpAnyH_take (i:=6) (v:=.pointer (some ⟨g',k,none⟩)) rfl (by kernel_rfl) (by kernel_rfl) (by kernel_rfl) (fun _ _ _ h=>h) (Or.inl ⟨by rfl,fun w hSw=>by go_simp⟩) hHeld ?_
    refine wpAnyH_take (i:=3) (v:=.slice A1 L.length c1) rfl (by kernel_rfl) (by kernel_rfl) (by kernel_rfl) (fun _ _ _ h=>h) (Or.inl ⟨by rfl,fun w hSw=>by have:=ld1 w hSw;go_simp⟩) hHeld ?_
    refine wpAnyH_take (i:=7) (v:=.slice A2 M.length c2) rfl (by kernel_rfl) (by kernel_rfl) (by kernel_rfl) (fun _ _ _ h=>h) (Or.inl ⟨by rfl,fun w hSw=>by have:=ld2 w hSw;go_simp⟩) hHeld ?_
    refine wpAnyH_ready (rs:=[8]) (by kernel_rfl) (by simp) (AllReadyH.cons rfl (fun K hK=>?_) AllReadyH.nil)
    go_simp
    refine (qy9 A1 _ c1 A2 _ c2 L M _ _ _ SD.out TD.out f1.1 f2.1 f1.2 f2.2).mono ?_
    rintro e w2 ⟨rfl,b2⟩
    have hHeld2:Below wr.heap.size wr w2:=b1.trans (b2.mono b1.size)
    have B2:Hid (Below w.heap.size w w2):=Lib.hid (HS.out.1.trans (hHeld2.mono hsz))
    clear SD TD RD RD' HC HC' ld1 ld2 b1 b2 hHeld f1 f2
    cases hz:eqL L M
    ·have HZ:=Lib.hid hz;clear hz
     go_wp2_with fail
     refine hK.out _ _ hHeld2 (fun hHeld=>?_)
     clear hK K hHeld2
     refine wpAnyH_ready (rs:=[9]) (by kernel_rfl) (by simp) (AllReadyH.cons rfl (fun K hK=>?_) AllReadyH.nil)
     go_simp
     refine hK.out _ _ hHeld (fun hHeld2=>?_)
     clear hK K hHeld hHeld2
     refine wpAnyH_done (by kernel_rfl) ?_ _
     go_wp2_with fail
     go_ret
     exact ⟨qx (qys LK.out MK.out HZ.out).symm,B2.out⟩
    ·have HZ:=Lib.hid hz;clear hz
     go_wp2_with fail
     refine hK.out _ _ hHeld2 (fun hHeld=>?_)
     clear hK K hHeld2
     refine wpAnyH_ready (rs:=[9]) (by kernel_rfl) (by simp) (AllReadyH.cons rfl (fun K hK=>?_) AllReadyH.nil)
     go_simp
     refine hK.out _ _ hHeld (fun hHeld2=>?_)
     clear hK K hHeld hHeld2
     refine wpAnyH_done (by kernel_rfl) ?_ _
     go_wp2_with fail
     go_roundw
     case rel=>exact ⟨k + 1,by omega,by go_num,HS.out.step B2.out LK.out MK.out HZ.out⟩
     case measure=>simp [intOf];omega
   ·obtain rfl:k = m:=by omega
    go_wp2
    go_ret
    exact ⟨qx (qur LX.out LY.out HS.out.2).symm,HS.out.1⟩
 ·have hb:((n:Int) != (m:Int)) = true:=by simp;omega
  have HB:Hid (qt2 LL MM = false):=Lib.hid (qus (by rw [LX.out,LY.out];exact hnm))
  clear hnm
  go_enter sqp.func6,sqp.ntmps6
  go_wp2
  go_ret
  exact ⟨qx HB.out.symm,Below.refl _ _⟩
def RM (w:World) (k:Int) (LL:List (List Sur)) (t j l u:Nat) (A:Option Addr) (m c:Nat):Prop:=∃ L,LL[j]? = some L/\m = L.length/\Mat w l u A (m * 2) (if j < t then qar (k + tl (LL.take j)) (flat L) else flat L)
theorem RM.keep {w w':World} {k:Int} {LL:List (List Sur)} {t j l u m c B:Nat} {A:Option Addr} (h:RM w k LL t j l u A m c) (hb:Below B w w') (hB:u<=B):RM w' k LL t j l u A m c:=by
 obtain ⟨L,h1,h2,h3⟩:=h;exact ⟨L,h1,h2,h3.keep hb hB⟩
def Slm (w:World) (base hi:Nat) (v:Value) (k:Int) (LL:List (List Sur)) (t:Nat):Prop:=∃ hs iv,Sv w base hi v LL.length hs iv (RM w k LL t)
theorem Slm.keep {w w':World} {base hi t B:Nat} {v:Value} {k:Int} {LL:List (List Sur)} (h:Slm w base hi v k LL t) (hb:Below B w w') (hB:hi<=B):Slm w' base hi v k LL t:=by
 obtain ⟨hs,iv,s⟩:=h;exact ⟨hs,iv,s.keep hb hB (fun _ _ _ _ _ _ q r=>r.keep hb (Nat.le_trans q hB))⟩
theorem Slm.top {w:World} {base hi t:Nat} {v:Value} {k:Int} {LL:List (List Sur)} (h:Slm w base hi v k LL t):hi<=w.heap.size:=by obtain ⟨hs,iv,s⟩:=h;exact s.top
theorem Slm.form {w:World} {base hi t:Nat} {v:Value} {k:Int} {LL:List (List Sur)} (h:Slm w base hi v k LL t):∃ A c,v = .slice A LL.length c:=by obtain ⟨hs,iv,s⟩:=h;exact mem.za s.own
theorem Slo.mark {w:World} {base hi:Nat} {v:Value} (k:Int) {LL:List (List Sur)} (h:Slo w base hi v LL):Slm w base hi v k LL 0:=by
 obtain ⟨hs,iv,s⟩:=h
 exact ⟨hs,iv,s.own,s.hl,s.top,s.vlt,fun j hj=>by
  obtain ⟨A,m,c,q1,q2,q3,⟨L,e1,e2,e3⟩,q5⟩:=s.row j hj
  subst e2
  exact ⟨A,L.length,c,q1,q2,q3,⟨L,e1,rfl,by rw [if_neg (Nat.not_lt_zero _)];exact e3.mat⟩,q5⟩,s.ord⟩
theorem Slm.at_ {w:World} {base hi t j:Nat} {v:Value} {k:Int} {LL:List (List Sur)} (h:Slm w base hi v k LL t) (hj:j < LL.length) :
  ∃ g A L c c0 l u,v = .slice (some ⟨g,0,none⟩) LL.length c0/\g < w.heap.size/\w.cell? ⟨g,j,none⟩ = some (.slice A L.length c)/\LL[j]? = some L ∧
   Mat w l u A (L.length * 2) (if j < t then qar (k + tl (LL.take j)) (flat L) else flat L) ∧
   (t = j->∀ w',Mat w' l u A (L.length * 2) (qar (k + tl (LL.take j)) (flat L))->Out l u w w'->Slm w' base hi v k LL (j + 1)/\Out base hi w w'):=by
 obtain ⟨hs,iv,s⟩:=h
 obtain ⟨g,A,m,c,c0,e,hg,hc,q1,q2,q3,L,h1,rfl,h3⟩:=s.at_ hj
 refine ⟨g,A,L,c,c0,_,_,e,hg,hc,h1,h3,fun ht w' hm ho=>⟨⟨hs,iv,s.one (t:=j) hj ho (fun A' m' c' hq=>?_) (fun i l u A' m' c' hne hd=>?_)⟩,ho.wider q2 q3⟩⟩
 ·rintro _
  subst ht
  rw [q1] at hq
  cases hq
  exact ⟨L,h1,rfl,by rw [if_pos (Nat.lt_succ_self _)];exact hm⟩
 ·rintro ⟨L',e1,e2,e3⟩
  subst ht
  refine ⟨L',e1,e2,?_⟩
  have:=e3.out ho hd
  by_cases q:i < t
  ·rw [if_pos q] at this;rw [if_pos (by omega)];exact this
  ·rw [if_neg q] at this;rw [if_neg (by omega)];exact this
set_option maxHeartbeats 2000000 in
theorem qpb (v:Value) (LL:List (List Sur)) (base hi:Nat) (k:Int) (w:World)
  (hx:Slm w base hi v k LL 0) (hn:Few LL) (h1:1<=k) (h2:k<=104857600) :
  Calls sqp.prog 7 #[v,.int .i64 k] w fun e w'=>e = .returned (.int .i64 (k + tl LL))/\Slm w' base hi v k LL LL.length/\Out base hi w w':=by
 obtain ⟨A,c,rfl⟩:=hx.form
 have HX:=Lib.hid hx;have FL:=Lib.hid hn;clear hx
 have n1:=hn.len;have n2:tl LL<=1048576:=hn.tot
 clear hn
 go_enter sqp.func7,sqp.ntmps7
 go_wp2
 go_loopw [1,5] (fun q i wr=>∃ j:Nat,j<=LL.length/\q = .int .i64 (k + tl (LL.take j))/\i = .int .i64 j/\Slm wr base hi (.slice A LL.length c) k LL j/\Out base hi w wr) (fun _ i _=>LL.length - (intOf i).toNat)
 case atStart=>exact ⟨0,Nat.zero_le _,by simp [tl],rfl,HX.out,Out.refl _ _ _⟩
 case round =>
  obtain ⟨j,hj,rfl,rfl,hm,ho⟩:=hrel
  have HM:=Lib.hid hm;have HO:=Lib.hid ho;clear hm ho
  have hle:=qyr LL j
  by_cases hlt:j < LL.length
  ·obtain ⟨g,A1,L,c1,c0,l,u,eA,hg,hc,hLk,hmat,hset⟩:=HM.out.at_ hlt
   simp at eA
   obtain ⟨rfl,rfl⟩:=eA
   rw [if_neg (Nat.lt_irrefl _)] at hmat
   have LK:=Lib.hid hLk;have RX:=Lib.hid hmat;have HS:=Lib.hid (hset rfl)
   have f1:=FL.out.each L (List.mem_of_getElem? hLk)
   have b1:=qxd hLk
   have TT:=Lib.hid (qlz hLk)
   clear hLk hmat hset
   go_wp2_with fail
   refine (qrv A1 _ c1 (flat L) l u (k + tl (LL.take j)) _ RX.out f1.1 (by omega) (by omega) (by omega)).mono ?_
   rintro e w1 ⟨rfl,r1,o1⟩
   have HN:=Lib.hid (HS.out w1 r1 o1)
   clear r1 o1 HS RX
   go_wp2_with fail
   go_roundw
   case rel=>exact ⟨j + 1,by omega,by rw [TT.out];go_num,by go_num,HN.out.1,HO.out.trans HN.out.2⟩
   case measure=>simp [intOf];omega
  ·obtain rfl:j = LL.length:=by omega
   have TT:Hid (tl (LL.take LL.length) = tl LL):=Lib.hid (by rw [List.take_of_length_le (Nat.le_refl _)])
   go_wp2
   go_ret
   exact ⟨by rw [<-TT.out];rfl,HM.out,HO.out⟩
set_option maxHeartbeats 2000000 in
theorem qhq (v:Value) (LL:List (List Sur)) (base hi:Nat) (k:Int) (w:World)
  (hx:Slm w base hi v k LL LL.length) (hn:Few LL) (h1:1<=k) (h2:k<=104857600) :
  Calls sqp.prog 8 #[v,.int .i64 k] w fun e w'=>e = .returned (.int .i64 (k + tl LL))/\qbg w w':=by
 obtain ⟨A,c,rfl⟩:=hx.form
 have HX:=Lib.hid hx;have FL:=Lib.hid hn;clear hx
 have n1:=hn.len;have n2:tl LL<=1048576:=hn.tot
 clear hn
 go_enter sqp.func8,sqp.ntmps8
 go_wp2
 go_loopw [1,5] (fun q i wr=>∃ j:Nat,j<=LL.length/\q = .int .i64 (k + tl (LL.take j))/\i = .int .i64 j/\qbg w wr) (fun _ i _=>LL.length - (intOf i).toNat)
 case atStart=>exact ⟨0,Nat.zero_le _,by simp [tl],rfl,0,rfl⟩
 case round =>
  obtain ⟨j,hj,rfl,rfl,hb⟩:=hrel
  have HB:=Lib.hid hb;clear hb
  have hle:=qyr LL j
  by_cases hlt:j < LL.length
  ·obtain ⟨g,A1,L,c1,c0,l,u,eA,hg,hc,hLk,hmat,_⟩:=HX.out.at_ hlt
   simp at eA
   obtain ⟨rfl,rfl⟩:=eA
   rw [if_pos hlt] at hmat
   rw [<-HB.out.cell] at hc
   have RX:Hid (Mat wr l u A1 (L.length * 2) (qar (k + tl (LL.take j)) (flat L))):=Lib.hid (hmat.keep (HB.out.below _) hmat.2.1)
   have f1:=FL.out.each L (List.mem_of_getElem? hLk)
   have b1:=qxd hLk
   have TT:=Lib.hid (qlz hLk)
   clear hLk hmat
   go_wp2_with fail
   refine (qrw A1 _ c1 (flat L) l u (k + tl (LL.take j)) _ RX.out f1.1 (by omega) (by omega) (by omega)).mono ?_
   rintro e w1 ⟨rfl,d1⟩
   have HN:=Lib.hid (qdq HB.out d1)
   clear d1 RX
   go_wp2_with fail
   go_roundw
   case rel=>exact ⟨j + 1,by omega,by rw [TT.out];go_num,by go_num,HN.out⟩
   case measure=>simp [intOf];omega
  ·obtain rfl:j = LL.length:=by omega
   have TT:Hid (tl (LL.take LL.length) = tl LL):=Lib.hid (by rw [List.take_of_length_le (Nat.le_refl _)])
   go_wp2
   go_ret
   exact ⟨by rw [<-TT.out];rfl,HB.out⟩
end Go.Proofs.Ytcdclihinmdgiaa.lst
