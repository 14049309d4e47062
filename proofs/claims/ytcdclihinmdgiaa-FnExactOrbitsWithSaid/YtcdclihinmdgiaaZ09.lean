import Derived.Test.YtcdclihinmdgiaaZ04
import Derived.Test.YtcdclihinmdgiaaZ07
import Derived.Test.YtcdclihinmdgiaaZ08
import Derived.Deep.AppendLies
import Derived.Deep.MidRow
import Derived.Deep.RegionHeld3
namespace Go.Proofs.Ytcdclihinmdgiaa.orb
open Go.ChangeShapes Go.WideShapes Go.ChangeAt Go.RowKit
open mem ints arr pm sf
set_option linter.unusedVariables false
set_option maxRecDepth 100000
def Lrd (w:World) (hi:Nat) (v:Value) (L:List Sur):Prop :=
 ∃ A n c,v = .slice A n c/\L.length = n/\n<=c/\hi<=w.heap.size/\(0 < n->∃ g off,A = some ⟨g,off,none⟩/\g < hi ∧
  ∀ (k:Nat) (s:Sur),L[k]? = some s->∃ a b,w.cell? ⟨g,off + k * 2,none⟩ = some a/\w.cell? ⟨g,off + k * 2 + 1,none⟩ = some b/\Srd w hi (.agg #[a,b]) s.1 s.2)
theorem Lrd.keep {w w':World} {hi B:Nat} {v:Value} {L:List Sur} (h:Lrd w hi v L) (hb:Below B w w') (hB:hi<=B):Lrd w' hi v L:=by
 obtain ⟨A,n,c,e,h1,h2,h3,h4⟩:=h
 refine ⟨A,n,c,e,h1,h2,Nat.le_trans h3 hb.size,fun hn=>?_⟩
 obtain ⟨g,off,q1,q2,q3⟩:=h4 hn
 refine ⟨g,off,q1,q2,fun k s hs=>?_⟩
 obtain ⟨a,b,c1,c2,c3⟩:=q3 k s hs
 exact ⟨a,b,by rw [hb.cell (p:=⟨g,off + k * 2,none⟩) (by show g < B;omega)];exact c1,by rw [hb.cell (p:=⟨g,off + k * 2 + 1,none⟩) (by show g < B;omega)];exact c2,c3.keep hb hB⟩
theorem Lrd.top {w:World} {hi:Nat} {v:Value} {L:List Sur} (h:Lrd w hi v L):hi<=w.heap.size:=by
 obtain ⟨A,n,c,e,h1,h2,h3,h4⟩:=h
 exact h3
theorem Lrd.at_ {w:World} {hi n c k:Nat} {A:Option Addr} {L:List Sur} (h:Lrd w hi (.slice A n c) L) (hk:k < n) :
  ∃ g off s P p cp Q q cq,A = some ⟨g,off,none⟩/\g < hi/\L[k]? = some s/\w.cell? ⟨g,off + k * 2,none⟩ = some (.slice P p cp)/\w.cell? ⟨g,off + k * 2 + 1,none⟩ = some (.slice Q q cq)/\Srd w hi (.agg #[.slice P p cp,.slice Q q cq]) s.1 s.2:=by
 obtain ⟨A',n',c',e,h1,h2,h3,h4⟩:=h
 injection e with e1 e2 e3
 subst e1;subst e2;subst e3
 obtain ⟨g,off,q1,q2,q3⟩:=h4 (by omega)
 have hs:=List.getElem?_eq_getElem (l:=L) (i:=k) (by omega)
 obtain ⟨a,b,c1,c2,c3⟩:=q3 k _ hs
 have c4:=c3
 obtain ⟨P,p,cp,Q,q,cq,e,_⟩:=c4
 simp at e
 obtain ⟨rfl,rfl⟩:=e
 exact ⟨g,off,_,P,p,cp,Q,q,cq,q1,q2,hs,c1,c2,c3⟩
def Rel (L:List Sur) (x:Sur) (w wr:World) (k:Nat):Prop:=Below w.heap.size w wr/\∀ j,j < k->L[j]? ≠ some x
theorem same_eq {r u r' u':List Int}:qiz r u r' u' = decide ((r,u) = (r',u')):=by
 unfold qiz eqi
 by_cases h1:r = r' <;> by_cases h2:u = u' <;> simp [h1,h2]
theorem Rel.step {L:List Sur} {x y:Sur} {w wr w':World} {k:Nat} (h:Rel L x w wr k) (hb:Below w.heap.size w w') (hy:L[k]? = some y) (hne:qiz y.1 y.2 x.1 x.2 = false):Rel L x w w' (k + 1):=by
 refine ⟨hb,fun j hj e=>?_⟩
 by_cases q:j = k
 ·subst q
  rw [hy] at e
  injection e with e
  subst e
  rw [same_eq] at hne
  simp at hne
 ·exact h.2 j (by omega) e
set_option maxHeartbeats 2000000 in
theorem find_spec (A:Option Addr) (n c:Nat) (L:List Sur) (v:Value) (x:Sur) (h1 h2:Nat) (w:World) (hl:Lrd w h1 (.slice A n c) L) (hx:Srd w h2 v x.1 x.2)
  (hn:n<=1048576) (hm:∀ y ∈ L,y.1.length<=1048576/\y.2.length<=1048576) (hx1:x.1.length<=1048576) (hx2:x.2.length<=1048576) :
  Calls sqp.prog 11 #[.slice A n c,v] w fun e w'=>e = .returned (.int .i64 (fnd L x))/\Below w.heap.size w w':=by
 have ln:L.length = n:=by obtain ⟨A',n',c',e,h1,_⟩:=hl;injection e with e1 e2 e3;subst e2;exact h1
 have LN:=Lib.hid ln;have HL:=Lib.hid hl;have HM:=Lib.hid hm;clear ln hl hm
 obtain ⟨P,p,cp,Q,q,cq,rfl,q1,q2,e1,e2⟩:=hx
 have HX:Hid (Srd w h2 (.agg #[.slice P p cp,.slice Q q cq]) x.1 x.2):=Lib.hid ⟨_,_,_,_,_,_,rfl,q1,q2,e1,e2⟩
 clear q1 q2
 go_enter sqp.func11,sqp.ntmps11
 go_wp2
 have A0:=Lib.hid (Arr.new w [.slice P p cp,.slice Q q cq] 32 rfl)
 have B0:=Lib.hid ((Below.refl w.heap.size w).alloc (Nat.le_refl _) (.cells #[.slice P p cp,.slice Q q cq] 32))
 have s0:w.heap.size < (w.alloc (.cells #[.slice P p cp,.slice Q q cq] 32)).heap.size:=by simp
 generalize w.alloc (.cells #[.slice P p cp,.slice Q q cq] 32) = w0 at *
 go_loopw [5,6,9] (fun _ _ i wr=>∃ k:Nat,k<=n/\i = .int .i64 k/\Rel L x w0 wr k) (fun _ _ i _=>n - (intOf i).toNat)
 case atStart=>exact ⟨0,Nat.zero_le _,rfl,Below.refl _ _,fun j hj=>by omega⟩
 case round =>
  obtain ⟨k,hk,rfl,hr⟩:=hrel
  have HR:=Lib.hid hr;clear hr
  have hsz:=HR.out.1.size
  by_cases hlt:k < n
  ·obtain ⟨g,off,y,P',p',cp',Q',q',cq',rfl,hg,hy,c0,c1,hsr⟩:=(HL.out.keep (B0.out.mono HL.out.top) (Nat.le_refl _)).at_ hlt
   have hgw:g < w0.heap.size:=Nat.lt_of_lt_of_le hg (Nat.le_trans HL.out.top (by omega))
   rw [<-HR.out.1.cell (p:=⟨g,off + k * 2,none⟩) hgw] at c0
   rw [<-HR.out.1.cell (p:=⟨g,off + k * 2 + 1,none⟩) hgw] at c1
   have YS:=Lib.hid (hsr.keep HR.out.1 (Nat.le_trans HL.out.top (by omega)))
   have HY:=Lib.hid hy;clear hsr hy
   have ZA:=Lib.hid (A0.out.keep HR.out.1 A0.out.lt)
   have d0:=fun o=>(ZA.out.alloc o).cell (k:=0) rfl;have d1:=fun o=>(ZA.out.alloc o).cell (k:=1) rfl
   have hym:=HM.out y (List.mem_of_getElem? HY.out)
   go_wp2_with fail
   refine (qkq _ y.1 y.2 _ x.1 x.2 _ _ _ (YS.out.keep ((Below.refl wr.heap.size wr).alloc (Nat.le_refl _) _) YS.out.top)
    ((HX.out.keep (B0.out.mono HX.out.top) (Nat.le_refl _)).keep (HR.out.1.trans ((Below.refl w0.heap.size wr).alloc hsz _)) (Nat.le_trans HX.out.top (by omega))) hym.1 hym.2 hx1 hx2).mono ?_
   rintro e w2 ⟨rfl,b2⟩
   have B2:Hid (Below w0.heap.size w0 w2):=Lib.hid (HR.out.1.trans (((Below.refl w0.heap.size wr).alloc hsz _).trans (b2.mono (by simp;omega))))
   clear b2 c0 c1 d0 d1 ZA YS
   cases hq:qiz y.1 y.2 x.1 x.2
   ·have HQ:=Lib.hid hq;clear hq
    go_wp2_with fail
    go_roundw
    case rel=>exact ⟨k + 1,by omega,by go_num,HR.out.step B2.out HY.out HQ.out⟩
    case measure=>simp [intOf];omega
   ·have HF:Hid (fnd L x = k):=Lib.hid (by
     rw [same_eq,decide_eq_true_iff] at hq
     exact q1t (by rw [HY.out];exact congrArg some hq) HR.out.2)
    clear hq
    go_wp2_with fail
    go_ret
    exact ⟨qdr HF.out.symm,B0.out.trans (B2.out.mono B0.out.size)⟩
  ·obtain rfl:k = n:=by omega
   have HF:Hid (fnd L x = -1):=Lib.hid (qu9 (by rw [LN.out];exact HR.out.2))
   go_wp2_with fail
   go_ret
   exact ⟨qdr HF.out.symm,B0.out.trans (HR.out.1.mono B0.out.size)⟩
end Go.Proofs.Ytcdclihinmdgiaa.orb

namespace Go.Proofs.Ytcdclihinmdgiaa.mat
open Go.ChangeShapes Go.WideShapes Go.ChangeAt Go.RowKit
open mem ints
set_option linter.unusedVariables false
set_option maxRecDepth 100000
structure Hs (w:World) (lo hi:Nat) (ex:Nat->Prop) (bl:Nat->Nat) (hs:List Value) (xss:List (List Int)):Prop where
 len:hs.length = xss.length
 top:hi<=w.heap.size
 row:∀ i xs,xss[i]? = some xs->∃ A c,hs[i]? = some (.slice A xs.length c)/\(0 < xs.length->lo<=bl i/\bl i < hi/\¬ ex (bl i)/\Row w (bl i) (bl i + 1) A xs.length (V xs))
 ne:∀ i j xs ys,xss[i]? = some xs->xss[j]? = some ys->0 < xs.length->0 < ys.length->i ≠ j->bl i ≠ bl j
theorem Row.block {w w':World} {g n:Nat} {A:Option Addr} {xs:List Value} (h:Row w g (g + 1) A n xs) (hb:w'.heap[g]? = w.heap[g]?) (hs:w.heap.size<=w'.heap.size):Row w' g (g + 1) A n xs:=by
 refine ⟨h.1,Nat.le_trans h.2.1 hs,fun hn=>?_⟩
 obtain ⟨g',off,e,h1,h2,hc⟩:=h.2.2 hn
 obtain rfl:g' = g:=by omega
 refine ⟨g',off,e,h1,h2,fun j hj=>?_⟩
 rw [World.cell?_of_block (w:=w) (a:=⟨g',off + j,none⟩) hb,World.frozen?_of_block (w:=w) (a:=⟨g',off + j,none⟩) hb]
 exact hc j hj
theorem Hs.keep {w w':World} {lo hi:Nat} {ex:Nat->Prop} {bl:Nat->Nat} {hs:List Value} {xss:List (List Int)} (h:Hs w lo hi ex bl hs xss) (hs':w.heap.size<=w'.heap.size)
  (hk:∀ b,lo<=b->b < hi->¬ ex b->w'.heap[b]? = w.heap[b]?):Hs w' lo hi ex bl hs xss:=by
 refine ⟨h.len,Nat.le_trans h.top hs',fun i xs hx=>?_,h.ne⟩
 obtain ⟨A,c,e,hr⟩:=h.row i xs hx
 refine ⟨A,c,e,fun hp=>?_⟩
 obtain ⟨h1,h2,h3,h4⟩:=hr hp
 exact ⟨h1,h2,h3,Row.block h4 (hk _ h1 h2 h3) hs'⟩
theorem Hs.nil (w:World) (lo hi:Nat) (ex:Nat->Prop) (bl:Nat->Nat) (h:hi<=w.heap.size):Hs w lo hi ex bl [] [] :=
 ⟨rfl,h,fun i xs hx=>by simp at hx,fun i j xs ys hx=>by simp at hx⟩
theorem Hs.exs {w:World} {lo hi:Nat} {ex ex':Nat->Prop} {bl:Nat->Nat} {hs:List Value} {xss:List (List Int)} (h:Hs w lo hi ex bl hs xss) (he:∀ b,lo<=b->b < hi->¬ ex b->¬ ex' b):Hs w lo hi ex' bl hs xss:=by
 refine ⟨h.len,h.top,fun i xs hx=>?_,h.ne⟩
 obtain ⟨A,c,e,hr⟩:=h.row i xs hx
 exact ⟨A,c,e,fun hp=>⟨(hr hp).1,(hr hp).2.1,he _ (hr hp).1 (hr hp).2.1 (hr hp).2.2.1,(hr hp).2.2.2⟩⟩
theorem Hs.one {w:World} {lo hi:Nat} {ex:Nat->Prop} {bl:Nat->Nat} {hs:List Value} {xss:List (List Int)} (h:Hs w lo hi ex bl hs xss) {i:Nat} {xs:List Int} (hx:xss[i]? = some xs) :
  ∃ A c l u,hs[i]? = some (.slice A xs.length c)/\Row w l u A xs.length (V xs)/\(0 < xs.length->lo<=l/\u<=hi/\l = bl i/\u = l + 1/\¬ ex l)/\(xs.length = 0->l = 0/\u = 0):=by
 obtain ⟨A,c,e,hr⟩:=h.row i xs hx
 rcases Nat.eq_zero_or_pos xs.length with h0 | h0
 ·refine ⟨A,c,0,0,e,⟨by simp [V],Nat.zero_le _,fun q=>by omega⟩,fun q=>by omega,fun _=>⟨rfl,rfl⟩⟩
 ·obtain ⟨q1,q2,q3,q4⟩:=hr h0
  exact ⟨A,c,bl i,bl i + 1,e,q4,fun _=>⟨q1,by omega,rfl,rfl,q3⟩,fun q=>by omega⟩
theorem Hs.qjo {w w':World} {lo hi:Nat} {ex:Nat->Prop} {bl:Nat->Nat} {hs:List Value} {xss:List (List Int)} (h:Hs w lo hi ex bl hs xss) {i l u c:Nat} {A:Option Addr} {xs ys:List Int} (hx:xss[i]? = some xs) (hl:ys.length = xs.length)
  (he:hs[i]? = some (.slice A xs.length c)) (hp:0 < xs.length->lo<=l/\u<=hi/\l = bl i/\u = l + 1/\¬ ex l) (hr:Row w' l u A xs.length (V ys)) (ho:Out l u w w') (h0:xs.length = 0->l = 0/\u = 0):Hs w' lo hi ex bl hs (xss.set i ys):=by
 have hi':i < xss.length:=(List.getElem?_eq_some_iff.1 hx).1
 have key:∀ j zs,(xss.set i ys)[j]? = some zs->∃ zs0,xss[j]? = some zs0/\zs0.length = zs.length/\(j ≠ i->zs0 = zs):=by
  intro j zs hz
  by_cases e:j = i
  ·subst e
   rw [List.getElem?_set_self hi'] at hz
   obtain rfl:=Option.some.inj hz
   exact ⟨xs,hx,hl.symm,fun q=>absurd rfl q⟩
  ·rw [List.getElem?_set_ne (by omega)] at hz
   exact ⟨zs,hz,rfl,fun _=>rfl⟩
 refine ⟨by simp [h.len],Nat.le_trans h.top ho.size,fun j zs hz=>?_,fun j k zs us hz hu z0 u0 hjk=>?_⟩
 ·by_cases e:j = i
  ·subst e
   rw [List.getElem?_set_self hi'] at hz
   obtain rfl:=Option.some.inj hz
   refine ⟨A,c,by rw [hl];exact he,fun q=>?_⟩
   rw [hl] at q
   obtain ⟨a1,a2,a3,a4,a5⟩:=hp q
   subst a4;subst a3
   exact ⟨a1,by omega,a5,by rw [hl];exact hr⟩
  ·rw [List.getElem?_set_ne (by omega)] at hz
   obtain ⟨A',c',e',hr'⟩:=h.row j zs hz
   refine ⟨A',c',e',fun q=>?_⟩
   obtain ⟨a1,a2,a3,a4⟩:=hr' q
   refine ⟨a1,a2,a3,Row.block a4 (ho.block _ (by have:=h.top;omega) ?_) ho.size⟩
   rcases Nat.eq_zero_or_pos xs.length with x0 | x0
   ·obtain ⟨b1,b2⟩:=h0 x0;right;omega
   ·obtain ⟨b1,b2,b3,b4,b5⟩:=hp x0
    have:=h.ne i j xs zs hx hz x0 q (by omega)
    omega
 ·obtain ⟨z1,a1,a2,_⟩:=key j zs hz
  obtain ⟨u1,b1,b2,_⟩:=key k us hu
  exact h.ne j k z1 u1 a1 b1 (by omega) (by omega) hjk
def Mat (w:World) (lo hi:Nat) (A:Option Addr) (n:Nat) (xss:List (List Int)):Prop :=
 xss.length = n/\hi<=w.heap.size/\∃ hs bl G,Hs w lo hi (fun b=>b = G) bl hs xss/\(0 < n->lo<=G/\G < hi/\Row w G (G + 1) A n hs)
theorem Mat.keep {w w':World} {lo hi n B:Nat} {A:Option Addr} {xss:List (List Int)} (h:Mat w lo hi A n xss) (hb:Below B w w') (hB:hi<=B):Mat w' lo hi A n xss:=by
 obtain ⟨h1,h2,hs,bl,G,h3,h4⟩:=h
 refine ⟨h1,Nat.le_trans h2 hb.size,hs,bl,G,h3.keep hb.size (fun b _ q _=>hb.block b (by omega)),fun hn=>?_⟩
 obtain ⟨q1,q2,q3⟩:=h4 hn
 exact ⟨q1,q2,Row.block q3 (hb.block G (by omega)) hb.size⟩
theorem Mat.out {w w':World} {lo hi lo' hi' n:Nat} {A:Option Addr} {xss:List (List Int)} (h:Mat w lo hi A n xss) (ho:Out lo' hi' w w') (hd:hi<=lo'\/hi'<=lo):Mat w' lo hi A n xss:=by
 obtain ⟨h1,h2,hs,bl,G,h3,h4⟩:=h
 refine ⟨h1,Nat.le_trans h2 ho.size,hs,bl,G,h3.keep ho.size (fun b p q _=>ho.block b (by omega) (by omega)),fun hn=>?_⟩
 obtain ⟨q1,q2,q3⟩:=h4 hn
 exact ⟨q1,q2,Row.block q3 (ho.block G (by omega) (by omega)) ho.size⟩
theorem Mat.at_ {w:World} {lo hi n k:Nat} {A:Option Addr} {xss:List (List Int)} (h:Mat w lo hi A n xss) (hk:k < n) :
  ∃ G off A' c xs l u,A = some ⟨G,off,none⟩/\xss[k]? = some xs/\w.cell? ⟨G,off + k,none⟩ = some (.slice A' xs.length c)/\Row w l u A' xs.length (V xs) ∧
   (∀ w' ys,ys.length = xs.length->Row w' l u A' xs.length (V ys)->Out l u w w'->Mat w' lo hi A n (xss.set k ys)/\Out lo hi w w'):=by
 obtain ⟨h1,h2,hs,bl,G,h3,h4⟩:=h
 obtain ⟨q1,q2,q3⟩:=h4 (by omega)
 have hx:xss[k]? = some xss[k]:=List.getElem?_eq_getElem (by omega)
 obtain ⟨A',c,l,u,e,hr,hp,hz⟩:=h3.one hx
 obtain ⟨g,off,v,rfl,g1,g2,hv,hc,_⟩:=q3.at_ hk
 obtain rfl:g = G:=by omega
 rw [e] at hv
 obtain rfl:=Option.some.inj hv
 refine ⟨g,off,A',c,xss[k],l,u,rfl,hx,hc,hr,fun w' ys hl hr' ho=>?_⟩
 refine ⟨⟨by simpa using h1,Nat.le_trans h2 ho.size,hs,bl,g,h3.qjo hx hl e hp hr' ho hz,fun _=>⟨q1,q2,Row.block q3 (ho.block _ (by omega) ?_) ho.size⟩⟩,?_⟩
 ·rcases Nat.eq_zero_or_pos (xss[k]).length with x0 | x0
  ·obtain ⟨b1,b2⟩:=hz x0;right;omega
  ·obtain ⟨b1,b2,b3,b4,b5⟩:=hp x0;omega
 ·rcases Nat.eq_zero_or_pos (xss[k]).length with x0 | x0
  ·obtain ⟨b1,b2⟩:=hz x0
   exact ⟨ho.os,ho.tape,ho.output,ho.size,fun j hj _=>ho.block j hj (by omega)⟩
  ·obtain ⟨b1,b2,b3,b4,b5⟩:=hp x0
   exact ho.wider b1 b2
def tot (xss:List (List Int)):Nat:=(xss.map List.length).sum
theorem qij {xss:List (List Int)} {k:Nat} {xs:List Int} (h:xss[k]? = some xs):xs.length<=tot xss:=by
 have hm:=List.mem_of_getElem? h
 clear h
 unfold tot
 induction xss with
 | nil=>simp at hm
 | cons a t ih =>
  rcases List.mem_cons.1 hm with rfl | hm
  ·simp
  ·have:=ih hm;simp;omega
theorem qfg {xss:List (List Int)} {k:Nat} {xs:List Int} (h:xss[k]? = some xs):tot (xss.take (k + 1)) = tot (xss.take k) + xs.length:=by
 unfold tot;rw [List.take_add_one,h];simp
theorem qnx (xss:List (List Int)) (k:Nat):tot (xss.take k)<=tot xss:=by
 have:tot xss = tot (xss.take k) + tot (xss.drop k):=by
  unfold tot;rw [<-List.sum_append,<-List.map_append,List.take_append_drop]
 omega
theorem qdq {a b c:World} (h:qbg a b) (k:qbg b c):qbg a c:=by
 obtain ⟨m,rfl⟩:=h;obtain ⟨n,rfl⟩:=k;exact ⟨m + n,by simp⟩
def qar (k:Int):List (List Int)->List (List Int)
 | []=>[]
 | xs :: t=>Marks k xs.length :: qar (k + xs.length) t
theorem qdz (k:Int) (n:Nat):(Marks k n).length = n:=by simp [Marks]
theorem qcz (xss:List (List Int)):∀ k,(qar k xss).length = xss.length:=by
 induction xss with
 | nil=>intro k;rfl
 | cons a t ih=>intro k;simp [qar,ih]
theorem qf5 (xss:List (List Int)):∀ (k:Int) (j:Nat) (xs:List Int),xss[j]? = some xs->(qar k xss)[j]? = some (Marks (k + tot (xss.take j)) xs.length):=by
 induction xss with
 | nil=>intro k j xs h;simp at h
 | cons a t ih =>
  intro k j xs h
  cases j with
  | zero=>simp at h;subst h;simp [qar,tot]
  | succ j =>
   simp at h
   have:=ih (k + a.length) j xs h
   simp only [qar,List.getElem?_cons_succ,List.take_succ_cons]
   rw [this]
   simp only [tot,List.map_cons,List.sum_cons]
   congr 2
   omega
def mix (k:Int) (xss:List (List Int)) (j:Nat):List (List Int):=(qar k xss).take j ++ xss.drop j
theorem qu0 (k:Int) (xss:List (List Int)):mix k xss 0 = xss:=by simp [mix]
theorem qza (k:Int) (xss:List (List Int)) {n:Nat} (h:xss.length = n):mix k xss n = qar k xss:=by
 unfold mix;rw [List.take_of_length_le (by rw [qcz];omega),List.drop_of_length_le (by omega),List.append_nil]
theorem qxi {k:Int} {xss:List (List Int)} {j:Nat} (h:j < xss.length):(mix k xss j)[j]? = xss[j]?:=by
 unfold mix
 have hl:((qar k xss).take j).length = j:=by rw [List.length_take,qcz];omega
 rw [List.getElem?_append_right (by omega),hl]
 simp
theorem qny {k:Int} {xss:List (List Int)} {j:Nat} {xs:List Int} (h:xss[j]? = some xs):(mix k xss j).set j (Marks (k + tot (xss.take j)) xs.length) = mix k xss (j + 1):=by
 have hj:j < xss.length:=(List.getElem?_eq_some_iff.1 h).1
 have hl:((qar k xss).take j).length = j:=by rw [List.length_take,qcz];omega
 unfold mix
 rw [List.take_add_one,qf5 xss k j xs h,List.set_append_right _ _ (by omega),hl,Nat.sub_self]
 have:xss.drop j = xs :: xss.drop (j + 1):=by
  rw [List.drop_eq_getElem_cons hj]
  congr 1
  rw [List.getElem?_eq_getElem hj] at h
  exact Option.some.inj h
 rw [this]
 simp
def qu1 (A:Option Addr) (n lo hi:Nat) (k:Int) (xss:List (List Int)) (w wr:World) (j:Nat):Prop:=Mat wr lo hi A n (mix k xss j)/\Out lo hi w wr
end Go.Proofs.Ytcdclihinmdgiaa.mat

namespace Go.Proofs.Ytcdclihinmdgiaa.orb
open Go.ChangeShapes Go.WideShapes Go.ChangeAt Go.RowKit
open mem ints arr pm sf
set_option linter.unusedVariables false
set_option maxRecDepth 100000
structure Rw1 (w:World) (lo hi:Nat) (ex:Nat->Prop) (b:Nat) (h:Value) (xs:List Int):Prop where
 lo_:lo<=b
 hi_:b < hi
 ex_:¬ ex b
 row:∃ P c,h = .slice P xs.length c/\xs.length<=c/\0 < xs.length/\Row w b (b + 1) P xs.length (V xs)
structure Ls (w:World) (lo hi:Nat) (ex:Nat->Prop) (bl:Nat->Nat × Nat) (hs:List Value) (L:List Sur):Prop where
 len:hs.length = L.length * 2
 top:hi<=w.heap.size
 row:∀ (k:Nat) (s:Sur),L[k]? = some s->∃ a b,hs[k * 2]? = some a/\hs[k * 2 + 1]? = some b/\Rw1 w lo hi ex (bl k).1 a s.1/\Rw1 w lo hi ex (bl k).2 b s.2/\(bl k).1 ≠ (bl k).2
 ne:∀ i j,i < L.length->j < L.length->i ≠ j->(bl i).1 ≠ (bl j).1/\(bl i).1 ≠ (bl j).2/\(bl i).2 ≠ (bl j).2
theorem Rw1.keep {w w':World} {lo hi:Nat} {ex:Nat->Prop} {b:Nat} {h:Value} {xs:List Int} (r:Rw1 w lo hi ex b h xs) (hb:w'.heap[b]? = w.heap[b]?) (hs:w.heap.size<=w'.heap.size):Rw1 w' lo hi ex b h xs:=by
 obtain ⟨P,c,e,h1,h2,h3⟩:=r.row
 exact ⟨r.lo_,r.hi_,r.ex_,P,c,e,h1,h2,mat.Row.block h3 hb hs⟩
theorem Rw1.to {w:World} {lo hi lo' hi':Nat} {ex ex':Nat->Prop} {b:Nat} {h:Value} {xs:List Int} (r:Rw1 w lo hi ex b h xs) (h1:lo'<=lo) (h2:hi<=hi') (he:¬ ex' b):Rw1 w lo' hi' ex' b h xs :=
 ⟨Nat.le_trans h1 r.lo_,Nat.lt_of_lt_of_le r.hi_ h2,he,r.row⟩
theorem Ls.keep {w w':World} {lo hi:Nat} {ex:Nat->Prop} {bl:Nat->Nat × Nat} {hs:List Value} {L:List Sur} (h:Ls w lo hi ex bl hs L) (hz:w.heap.size<=w'.heap.size)
  (hk:∀ b,lo<=b->b < hi->¬ ex b->w'.heap[b]? = w.heap[b]?):Ls w' lo hi ex bl hs L:=by
 refine ⟨h.len,Nat.le_trans h.top hz,fun k s hs'=>?_,h.ne⟩
 obtain ⟨a,b,h1,h2,r1,r2,h3⟩:=h.row k s hs'
 exact ⟨a,b,h1,h2,r1.keep (hk _ r1.lo_ r1.hi_ r1.ex_) hz,r2.keep (hk _ r2.lo_ r2.hi_ r2.ex_) hz,h3⟩
theorem Ls.to {w:World} {lo hi lo' hi':Nat} {ex ex':Nat->Prop} {bl:Nat->Nat × Nat} {hs:List Value} {L:List Sur} (h:Ls w lo hi ex bl hs L) (h1:lo'<=lo) (h2:hi<=hi') (h3:hi'<=w.heap.size)
  (he:∀ b,lo<=b->b < hi->¬ ex b->¬ ex' b):Ls w lo' hi' ex' bl hs L:=by
 refine ⟨h.len,h3,fun k s hs'=>?_,h.ne⟩
 obtain ⟨a,b,q1,q2,r1,r2,q3⟩:=h.row k s hs'
 exact ⟨a,b,q1,q2,r1.to h1 h2 (he _ r1.lo_ r1.hi_ r1.ex_),r2.to h1 h2 (he _ r2.lo_ r2.hi_ r2.ex_),q3⟩
theorem Ls.nil (w:World) (lo hi:Nat) (ex:Nat->Prop) (bl:Nat->Nat × Nat) (h:hi<=w.heap.size):Ls w lo hi ex bl [] [] :=
 ⟨rfl,h,fun k s hs=>by simp at hs,fun i j hi=>by simp at hi⟩
theorem Ls.snoc {w:World} {lo hi hi':Nat} {ex:Nat->Prop} {bl:Nat->Nat × Nat} {hs:List Value} {L:List Sur} (h:Ls w lo hi ex bl hs L) {g1 g2:Nat} {a b:Value} {s:Sur}
  (r1:Rw1 w hi hi' ex g1 a s.1) (r2:Rw1 w hi hi' ex g2 b s.2) (hne:g1 ≠ g2) (hlo:lo<=hi) (hh:hi<=hi') (ht:hi'<=w.heap.size) :
  Ls w lo hi' ex (fun i=>if i = L.length then (g1,g2) else bl i) (hs ++ [a,b]) (L ++ [s]):=by
 have hl:=h.len
 have old:∀ i,i < L.length->(lo<=(bl i).1/\(bl i).1 < hi)/\(lo<=(bl i).2/\(bl i).2 < hi):=fun i hi=>by
  obtain ⟨a,b,_,_,q1,q2,_⟩:=h.row i _ (List.getElem?_eq_getElem hi)
  exact ⟨⟨q1.lo_,q1.hi_⟩,⟨q2.lo_,q2.hi_⟩⟩
 have n1:=r1.lo_;have n2:=r2.lo_
 refine ⟨by simp [hl];omega,ht,fun k t hk=>?_,fun i j hi hj hij=>?_⟩
 ·rw [List.getElem?_append] at hk
  by_cases hk':k < L.length
  ·rw [if_pos hk'] at hk
   obtain ⟨a',b',q1,q2,q3,q4,q5⟩:=h.row k t hk
   refine ⟨a',b',by rw [List.getElem?_append_left (by omega)];exact q1,by rw [List.getElem?_append_left (by omega)];exact q2,?_⟩
   rw [if_neg (by omega)]
   exact ⟨q3.to (Nat.le_refl _) hh q3.ex_,q4.to (Nat.le_refl _) hh q4.ex_,q5⟩
  ·rw [if_neg hk'] at hk
   have e0:k = L.length:=by
    rcases Nat.lt_or_ge (k - L.length) 1 with q | q
    ·omega
    ·rw [List.getElem?_eq_none (by simpa using q)] at hk;cases hk
   subst e0
   simp at hk
   subst hk
   refine ⟨a,b,by rw [List.getElem?_append_right (by omega),hl];simp,by rw [List.getElem?_append_right (by omega),hl];simp,?_⟩
   rw [if_pos rfl]
   exact ⟨r1.to hlo (Nat.le_refl _) r1.ex_,r2.to hlo (Nat.le_refl _) r2.ex_,hne⟩
 ·simp at hi hj
  by_cases e1:i = L.length
  ·have e2:¬ j = L.length:=by omega
   have:=old j (by omega)
   simp only [if_pos e1,if_neg e2]
   omega
  ·by_cases e2:j = L.length
   ·have:=old i (by omega)
    simp only [if_pos e2,if_neg e1]
    omega
   ·simp only [if_neg e1,if_neg e2]
    exact h.ne i j (by omega) (by omega) hij
theorem Ls.srd {w:World} {lo hi:Nat} {ex:Nat->Prop} {bl:Nat->Nat × Nat} {hs:List Value} {L:List Sur} (h:Ls w lo hi ex bl hs L) {k:Nat} {s:Sur} (hs':L[k]? = some s) :
  ∃ a b,hs[k * 2]? = some a/\hs[k * 2 + 1]? = some b/\Srd w hi (.agg #[a,b]) s.1 s.2:=by
 obtain ⟨a,b,h1,h2,r1,r2,_⟩:=h.row k s hs'
 obtain ⟨P,c,e1,c1,p1,w1⟩:=r1.row
 obtain ⟨Q,d,e2,c2,p2,w2⟩:=r2.row
 subst e1;subst e2
 have q1:=r1.hi_;have q2:=r2.hi_;have q3:=h.top
 exact ⟨_,_,h1,h2,P,_,c,Q,_,d,rfl,sf.Rd.wider w1.rd (by omega) q3,sf.Rd.wider w2.rd (by omega) q3,c1,c2⟩
theorem add0 (g j:Nat):(⟨g,0,none⟩:Addr).add j = ⟨g,0 + j,none⟩:=by unfold Addr.add;split <;> simp_all
theorem Ls.lrd {w:World} {lo:Nat} {ex:Nat->Prop} {bl:Nat->Nat × Nat} {hs:List Value} {L:List Sur} (h:Ls w lo w.heap.size ex bl hs L) {base c:Nat} {e:TypeId} {A:Option Addr}
  (ho:w.ownsRow base e 2 (.slice A L.length c) L.length hs):Lrd w w.heap.size (.slice A L.length c) L:=by
 rcases ho.2 with ⟨q,q0⟩ | ⟨g,cap,cur,q,hb,hh,hc,_,hz,ht⟩
 ·injection q with q1 q2 q3
  exact ⟨A,L.length,c,rfl,rfl,by omega,Nat.le_refl _,fun hn=>by omega⟩
 ·have hlt:g < w.heap.size:=by
   rcases Nat.lt_or_ge g w.heap.size with hl | hl
   ·exact hl
   ·rw [Array.getElem?_eq_none hl] at hh;cases hh
  injection q with q1 q2 q3
  subst q1;subst q3
  have cell:∀ (j:Nat) (u:Value),hs[j]? = some u->w.cell? ⟨g,0 + j,none⟩ = some u:=fun j u hu=>by
   have:=ho.cells (g:=g) rfl j u hu
   rwa [add0] at this
  refine ⟨_,L.length,c,rfl,rfl,hc,Nat.le_refl _,fun hn=>⟨g,0,rfl,hlt,fun k s hs'=>?_⟩⟩
  obtain ⟨a,b,h1,h2,h3⟩:=h.srd hs'
  exact ⟨a,b,cell _ _ h1,by rw [Nat.add_assoc];exact cell _ _ h2,h3⟩
theorem Svl.two {w:World} {lo hi:Nat} {P Q:Option Addr} {n c m d:Nat} {s:Sur} (h:Svl w lo hi (.agg #[.slice P n c,.slice Q m d]) s.1 s.2) (hn:0 < n) (hm:0 < m) (ex:Nat->Prop) (he:∀ b,lo<=b->b < hi->¬ ex b) :
  ∃ g1 g2,Rw1 w lo hi ex g1 (.slice P n c) s.1/\Rw1 w lo hi ex g2 (.slice Q m d) s.2/\g1 ≠ g2:=by
 obtain ⟨P',n',c',Q',m',d',l1,h1,l2,h2,e,a,b,e1,e2,f1,f2,f3,f4,f5,f6⟩:=h
 simp at e
 obtain ⟨⟨rfl,rfl,rfl⟩,rfl,rfl,rfl⟩:=e
 have L1:s.1.length = n:=by simpa [V] using a.1
 have L2:s.2.length = m:=by simpa [V] using b.1
 subst L1;subst L2
 obtain ⟨g1,o1,q1,q2,q3,q4⟩:=a.2.2 hn
 obtain ⟨g2,o2,p1,p2,p3,p4⟩:=b.2.2 hm
 refine ⟨g1,g2,⟨by omega,by omega,he _ (by omega) (by omega),P,c,rfl,e1,hn,a.1,by omega,fun _=>⟨g1,o1,q1,Nat.le_refl _,by omega,q4⟩⟩,
  ⟨by omega,by omega,he _ (by omega) (by omega),Q,d,rfl,e2,hm,b.1,by omega,fun _=>⟨g2,o2,p1,Nat.le_refl _,by omega,p4⟩⟩,by omega⟩
structure Os (w0 w:World) (base hi:Nat) (v u:Value) (q:LW):Prop where
 ex:∃ hs bl,w.ownsRow base 32 2 v q.1.length hs/\Ls w base hi (fun b=>v.ownBlock = some b\/u.ownBlock = some b) bl hs q.1
 own:w.ownsRow base 9 1 u q.2.length (q.2.map fun x=>Value.string ⟨x.toArray⟩)
 sep:∀ b,v.ownBlock = some b->¬ u.ownBlock = some b
 vlt:∀ b,v.ownBlock = some b->b < hi
 ult:∀ b,u.ownBlock = some b->b < hi
 bel:Below base w0 w
 low:base<=hi
 top:hi<=w.heap.size
theorem qg {w w':World} {base:Nat} {e:TypeId} {size n:Nat} {v:Value} {xs:List Value} (h:w.ownsRow base e size v n xs) (hb:∀ b,v.ownBlock = some b->w'.heap[b]? = w.heap[b]?):w'.ownsRow base e size v n xs:=by
 refine ⟨h.1,?_⟩
 rcases h.2 with q | ⟨g,cap,cur,q1,q2,q3,q4⟩
 ·exact .inl q
 ·exact .inr ⟨g,cap,cur,q1,q2,by rw [hb g (by rw [q1];rfl)];exact q3,q4⟩
theorem Os.keep {w0 w w':World} {base hi B:Nat} {v u:Value} {q:LW} (h:Os w0 w base hi v u q) (hb:Below B w w') (hB:hi<=B):Os w0 w' base hi v u q:=by
 obtain ⟨hs,bl,o1,r⟩:=h.ex
 exact ⟨⟨hs,bl,qg o1 (fun b e=>hb.block b (Nat.lt_of_lt_of_le (h.vlt b e) hB)),r.keep hb.size (fun b _ q2 _=>hb.block b (by omega))⟩,
  qg h.own (fun b e=>hb.block b (Nat.lt_of_lt_of_le (h.ult b e) hB)),h.sep,h.vlt,h.ult,h.bel.trans (hb.mono (Nat.le_trans h.low hB)),h.low,Nat.le_trans h.top hb.size⟩
theorem Os.up {w0 w:World} {base hi:Nat} {v u:Value} {q:LW} (h:Os w0 w base hi v u q):Os w0 w base w.heap.size v u q:=by
 obtain ⟨hs,bl,o1,r⟩:=h.ex
 exact ⟨⟨hs,bl,o1,r.to (Nat.le_refl _) h.top (Nat.le_refl _) (fun _ _ _ q=>q)⟩,h.own,h.sep,fun b e=>Nat.lt_of_lt_of_le (h.vlt b e) h.top,fun b e=>Nat.lt_of_lt_of_le (h.ult b e) h.top,h.bel,Nat.le_trans h.low h.top,Nat.le_refl _⟩
theorem Os.forms {w0 w:World} {base hi:Nat} {v u:Value} {q:LW} (h:Os w0 w base hi v u q):∃ A c B d,v = .slice A q.1.length c/\u = .slice B q.2.length d:=by
 obtain ⟨hs,bl,o1,r⟩:=h.ex
 obtain ⟨A,c,e1⟩:=mem.za o1
 obtain ⟨B,d,e2⟩:=mem.za h.own
 exact ⟨A,c,B,d,e1,e2⟩
theorem Os.lrd {w0 w:World} {base hi c:Nat} {A:Option Addr} {u:Value} {q:LW} (h:Os w0 w base hi (.slice A q.1.length c) u q):Lrd w w.heap.size (.slice A q.1.length c) q.1:=by
 obtain ⟨hs,bl,o1,r⟩:=h.up.ex
 exact r.lrd o1
theorem Os.push {w0 w W w':World} {base hi lo g cap:Nat} {v u:Value} {q:LW} {s:Sur} {P Q:Option Addr} {n c m d k:Nat} {hs:List Value} {bl:Nat->Nat × Nat} (h:Os w0 w base hi v u q)
  (r:Ls w base hi (fun b=>v.ownBlock = some b\/u.ownBlock = some b) bl hs q.1)
  (hx:Svl w lo w.heap.size (.agg #[.slice P n c,.slice Q m d]) s.1 s.2) (hn:0 < n) (hm:0 < m) (hlo:hi<=lo) (hW:Below w.heap.size w W) (hk:k = q.1.length)
  (ho:w'.ownsRow base 32 2 (.slice (some ⟨g,0,none⟩) (k + 1) cap) (k + 1) (hs ++ [.slice P n c,.slice Q m d])) (hg:W.grownBy w' v.ownBlock) (hb:v.ownBlock = some g\/g = W.heap.size) (hlt:g < w'.heap.size) :
  Os w0 w' base w'.heap.size (.slice (some ⟨g,0,none⟩) (k + 1) cap) u (q.1 ++ [s],q.2):=by
 subst hk
 have hz:w.heap.size<=w'.heap.size:=Nat.le_trans hW.size hg.size
 have t1:=h.top;have t2:=hW.size;have t3:=hg.size
 have far:∀ b,b < w.heap.size->¬ v.ownBlock = some b->w'.heap[b]? = w.heap[b]?:=fun b hb1 hb2=>(hg.block b (by omega) (fun e=>hb2 e.symm)).trans (hW.block b hb1)
 obtain ⟨g1,g2,r1,r2,hne⟩:=Svl.two hx hn hm (fun b=>v.ownBlock = some b\/u.ownBlock = some b) (fun b b1 b2 e=>by
  rcases e with e | e
  ·have:=h.vlt b e;omega
  ·have:=h.ult b e;omega)
 have L1:=r.keep hz (fun b q1 q2 q3=>far b (by omega) (fun e=>q3 (.inl e)))
 have R1:=(r1.keep (far _ r1.hi_ (fun e=>r1.ex_ (.inl e))) hz).to (ex':=fun b=>v.ownBlock = some b\/u.ownBlock = some b) hlo (Nat.le_refl _) r1.ex_
 have R2:=(r2.keep (far _ r2.hi_ (fun e=>r2.ex_ (.inl e))) hz).to (ex':=fun b=>v.ownBlock = some b\/u.ownBlock = some b) hlo (Nat.le_refl _) r2.ex_
 have L2:=L1.snoc R1 R2 hne h.low (by omega) hz
 have hgb:∀ b,b < w.heap.size->g = b->v.ownBlock = some b:=fun b hb1 e=>by
  rcases hb with q | q
  ·rw [q,e]
  ·omega
 refine ⟨⟨_,_,by simpa using ho,L2.to (Nat.le_refl _) hz (Nat.le_refl _) (fun b b1 b2 e e'=>?_)⟩,qg h.own (fun b e=>far b (by have:=h.ult b e;omega) (fun e'=>h.sep b e' e)),fun b e e'=>?_,fun b e=>?_,fun b e=>by have:=h.ult b e;omega,?_,by have:=h.low;omega,Nat.le_refl _⟩
 ·rcases e' with e' | e'
  ·have e2:g = b:=by simpa [Value.ownBlock] using e'
   rcases hb with q | q
   ·exact e (.inl (by rw [q,e2]))
   ·subst e2
    omega
  ·exact e (.inr e')
 ·have e2:g = b:=by simpa [Value.ownBlock] using e
  have hb1:b < w.heap.size:=by have:=h.ult b e';omega
  exact h.sep b (hgb b hb1 e2) e'
 ·have e2:g = b:=by simpa [Value.ownBlock] using e
  omega
 ·exact h.bel.trans ⟨hg.os.trans hW.os,hg.tape.trans hW.tape,hg.output.trans hW.output,hz,fun b hb1=>far b (by have:=h.low;omega) (fun e=>by
   obtain ⟨hs',bl',o1,_⟩:=h.ex
   have:=(o1.lt b e).1
   omega)⟩
theorem Os.q3j {w0 w W w':World} {base hi g cap k:Nat} {v u:Value} {q:LW} {x:List UInt8} (h:Os w0 w base hi v u q) (hW:Below w.heap.size w W) (hk:k = q.2.length)
  (ho:w'.ownsRow base 9 1 (.slice (some ⟨g,0,none⟩) (k + 1) cap) (k + 1) ((q.2.map fun x=>Value.string ⟨x.toArray⟩) ++ [.string ⟨x.toArray⟩])) (hg:W.grownBy w' u.ownBlock) (hb:u.ownBlock = some g\/g = W.heap.size) (hlt:g < w'.heap.size) :
  Os w0 w' base w'.heap.size v (.slice (some ⟨g,0,none⟩) (k + 1) cap) (q.1,q.2 ++ [x]):=by
 subst hk
 obtain ⟨hs,bl,o1,r⟩:=h.ex
 have hz:w.heap.size<=w'.heap.size:=Nat.le_trans hW.size hg.size
 have t1:=h.top;have t2:=hW.size;have t3:=hg.size
 have far:∀ b,b < w.heap.size->¬ u.ownBlock = some b->w'.heap[b]? = w.heap[b]?:=fun b hb1 hb2=>(hg.block b (by omega) (fun e=>hb2 e.symm)).trans (hW.block b hb1)
 have L1:=r.keep hz (fun b q1 q2 q3=>far b (by omega) (fun e=>q3 (.inr e)))
 have hgb:∀ b,b < w.heap.size->g = b->u.ownBlock = some b:=fun b hb1 e=>by
  rcases hb with q | q
  ·rw [q,e]
  ·omega
 refine ⟨⟨_,_,qg o1 (fun b e=>far b (by have:=h.vlt b e;omega) (fun e'=>h.sep b e e')),L1.to (Nat.le_refl _) (by omega) (Nat.le_refl _) (fun b b1 b2 e e'=>?_)⟩,by simpa using ho,fun b e e'=>?_,fun b e=>by have:=h.vlt b e;omega,fun b e=>?_,?_,by have:=h.low;omega,Nat.le_refl _⟩
 ·rcases e' with e' | e'
  ·exact e (.inl e')
  ·have e2:g = b:=by simpa [Value.ownBlock] using e'
   exact e (.inr (hgb b (by omega) e2))
 ·have e2:g = b:=by simpa [Value.ownBlock] using e'
  have hb1:b < w.heap.size:=by have:=h.vlt b e;omega
  exact h.sep b e (hgb b hb1 e2)
 ·have e2:g = b:=by simpa [Value.ownBlock] using e
  omega
 ·exact h.bel.trans ⟨hg.os.trans hW.os,hg.tape.trans hW.tape,hg.output.trans hW.output,hz,fun b hb1=>far b (by have:=h.low;omega) (fun e=>by
   have:=(h.own.lt b e).1
   omega)⟩
theorem Os.word {w0 w:World} {base hi m d k:Nat} {v:Value} {B:Option Addr} {q:LW} {x:List UInt8} (h:Os w0 w base hi v (.slice B m d) q) (hx:q.2[k]? = some x) :
  ∃ g,B = some ⟨g,0,none⟩/\w.cell? ⟨g,0 + k,none⟩ = some (.string ⟨x.toArray⟩)/\g < hi:=by
 rcases h.own.2 with ⟨e,e0⟩ | ⟨g,cap,cur,e,_⟩
 ·have:=(List.getElem?_eq_some_iff.1 hx).1
  omega
 ·injection e with e1 e2 e3
  subst e1;subst e2
  have:=h.own.cells (g:=g) rfl k (.string ⟨x.toArray⟩) (by simp [hx])
  rw [add0] at this
  exact ⟨g,rfl,this,h.ult g rfl⟩
end Go.Proofs.Ytcdclihinmdgiaa.orb

namespace Go.Proofs.Ytcdclihinmdgiaa.orb
open Go.ChangeShapes Go.WideShapes Go.ChangeAt Go.RowKit Go.Joins Go.Deep
open mem ints arr pm sf mat
set_option linter.unusedVariables false
set_option maxRecDepth 100000
def flat:List Sur->List (List Int)
 | []=>[]
 | s :: L=>s.1 :: s.2 :: flat L
theorem qnv (L:List Sur):(flat L).length = L.length * 2:=by
 induction L with
 | nil=>rfl
 | cons s L ih=>simp [flat,ih];omega
theorem qru (L:List Sur):∀ k:Nat,(flat L)[k * 2]? = (L[k]?).map (·.1):=by
 induction L with
 | nil=>intro k;simp [flat]
 | cons s L ih =>
  intro k
  cases k with
  | zero=>simp [flat]
  | succ k=>have:=ih k;rw [show (k + 1) * 2 = k * 2 + 2 by omega];simp only [flat,List.getElem?_cons_succ];rw [this]
theorem quy (L:List Sur):∀ k:Nat,(flat L)[k * 2 + 1]? = (L[k]?).map (·.2):=by
 induction L with
 | nil=>intro k;simp [flat]
 | cons s L ih =>
  intro k
  cases k with
  | zero=>simp [flat]
  | succ k=>have:=ih k;rw [show (k + 1) * 2 + 1 = (k * 2 + 1) + 2 by omega];simp only [flat,List.getElem?_cons_succ];rw [this]
theorem ql1 {L:List Sur} {j:Nat} {xs:List Int} (h:(flat L)[j]? = some xs):∃ s,L[j / 2]? = some s/\xs = (if j % 2 = 0 then s.1 else s.2):=by
 by_cases e:j % 2 = 0
 ·rw [show j = j / 2 * 2 by omega,qru] at h
  obtain ⟨s,h1,h2⟩:=Option.map_eq_some_iff.1 h
  exact ⟨s,h1,by rw [if_pos e,h2]⟩
 ·rw [show j = j / 2 * 2 + 1 by omega,quy] at h
  obtain ⟨s,h1,h2⟩:=Option.map_eq_some_iff.1 h
  exact ⟨s,h1,by rw [if_neg e,h2]⟩
theorem qnw {N:Nat}:∀ {L:List Sur},(∀ s ∈ L,s.1.length<=N/\s.2.length<=N)->tot (flat L)<=2 * N * L.length
 | [],_=>by simp [flat,tot]
 | s :: L,h=>by
  have h1:=qnw (L:=L) (fun x hx=>h x (List.mem_cons_of_mem _ hx))
  obtain ⟨a,b⟩:=h s (by simp)
  have e:tot (flat (s :: L)) = s.1.length + (s.2.length + tot (flat L)):=by simp [flat,tot]
  rw [e,List.length_cons,Nat.mul_add]
  omega
theorem Ls.hs {w:World} {lo hi:Nat} {ex:Nat->Prop} {bl:Nat->Nat × Nat} {hs:List Value} {L:List Sur} (h:Ls w lo hi ex bl hs L) :
  Hs w lo hi ex (fun j=>if j % 2 = 0 then (bl (j / 2)).1 else (bl (j / 2)).2) hs (flat L):=by
 refine ⟨by rw [h.len,qnv],h.top,fun j xs hx=>?_,fun i j xs ys hx hy _ _ hij=>?_⟩
 ·obtain ⟨s,h1,h2⟩:=ql1 hx
  obtain ⟨a,b,q1,q2,r1,r2,_⟩:=h.row _ s h1
  by_cases e:j % 2 = 0
  ·rw [if_pos e] at h2 ⊢
   subst h2
   obtain ⟨P,c,e1,_,_,rr⟩:=r1.row
   exact ⟨P,c,by rw [show j = j / 2 * 2 by omega,q1,e1],fun _=>⟨r1.lo_,r1.hi_,r1.ex_,rr⟩⟩
  ·rw [if_neg e] at h2 ⊢
   subst h2
   obtain ⟨P,c,e1,_,_,rr⟩:=r2.row
   exact ⟨P,c,by rw [show j = j / 2 * 2 + 1 by omega,q2,e1],fun _=>⟨r2.lo_,r2.hi_,r2.ex_,rr⟩⟩
 ·obtain ⟨s,h1,_⟩:=ql1 hx
  obtain ⟨t,h2,_⟩:=ql1 hy
  have l1:=(List.getElem?_eq_some_iff.1 h1).1
  have l2:=(List.getElem?_eq_some_iff.1 h2).1
  obtain ⟨_,_,_,_,_,_,ne⟩:=h.row _ s h1
  by_cases e:i / 2 = j / 2
  ·by_cases e1:i % 2 = 0 <;> by_cases e2:j % 2 = 0
   ·omega
   ·simp only [if_pos e1,if_neg e2];rw [<-e];exact ne
   ·simp only [if_neg e1,if_pos e2];rw [<-e];exact fun q=>ne q.symm
   ·omega
  ·obtain ⟨n1,n2,n3⟩:=h.ne _ _ l1 l2 e
   obtain ⟨m1,m2,m3⟩:=h.ne _ _ l2 l1 (fun q=>e q.symm)
   by_cases e1:i % 2 = 0 <;> by_cases e2:j % 2 = 0 <;> simp only [e1,e2,if_true,if_false]
   ·exact n1
   ·exact n2
   ·exact fun q=>m2 q.symm
   ·exact n3
def Lo (w:World) (base hi:Nat) (v:Value) (L:List Sur):Prop :=
 ∃ hs bl,w.ownsRow base 32 2 v L.length hs/\Ls w base hi (fun b=>v.ownBlock = some b) bl hs L/\(∀ b,v.ownBlock = some b->b < hi)
theorem Lo.keep {w w':World} {base hi B:Nat} {v:Value} {L:List Sur} (h:Lo w base hi v L) (hb:Below B w w') (hB:hi<=B):Lo w' base hi v L:=by
 obtain ⟨hs,bl,o1,r,vl⟩:=h
 exact ⟨hs,bl,qg o1 (fun b e=>hb.block b (Nat.lt_of_lt_of_le (vl b e) hB)),r.keep hb.size (fun b _ q2 _=>hb.block b (by omega)),vl⟩
theorem Lo.out {w w':World} {base hi lo' hi':Nat} {v:Value} {L:List Sur} (h:Lo w base hi v L) (ho:Out lo' hi' w w') (hd:hi<=lo'\/hi'<=base):Lo w' base hi v L:=by
 obtain ⟨hs,bl,o1,r,vl⟩:=h
 have t:=r.top
 exact ⟨hs,bl,qg o1 (fun b e=>ho.block b (by have:=vl b e;omega) (by have:=vl b e;have:=(o1.lt b e).1;omega)),r.keep ho.size (fun b q1 q2 _=>ho.block b (by omega) (by omega)),vl⟩
theorem Lo.lrd {w:World} {base hi c:Nat} {A:Option Addr} {L:List Sur} (h:Lo w base hi (.slice A L.length c) L):Lrd w w.heap.size (.slice A L.length c) L:=by
 obtain ⟨hs,bl,o1,r,_⟩:=h
 exact (r.to (Nat.le_refl _) r.top (Nat.le_refl _) (fun _ _ _ q=>q)).lrd o1
theorem Lo.mat {w:World} {base hi c:Nat} {A:Option Addr} {L:List Sur} (h:Lo w base hi (.slice A L.length c) L):Mat w base hi A (L.length * 2) (flat L):=by
 obtain ⟨hs,bl,o1,r,vl⟩:=h
 refine ⟨qnv L,r.top,?_⟩
 rcases o1.2 with ⟨e,e0⟩ | ⟨g,cap,cur,e,hb,hh,hc,hm,hz,ht⟩
 ·obtain rfl:=List.eq_nil_of_length_eq_zero e0
  obtain rfl:hs = []:=List.eq_nil_of_length_eq_zero (by simpa using r.len)
  exact ⟨[],fun _=>0,0,Hs.nil _ _ _ _ _ r.top,fun q=>by simp at q⟩
 ·injection e with e1 e2 e3
  subst e1;subst e3
  have hl:=vl g rfl
  refine ⟨hs,_,g,(r.hs).exs (fun b _ _ q e=>q (by rw [e];rfl)),fun _=>⟨hb,hl,by rw [r.len],by have:=r.top;omega,fun hn=>⟨g,0,rfl,Nat.le_refl _,by omega,fun j hj=>?_⟩⟩⟩
  have hj':j < hs.length:=by rw [r.len];exact hj
  have h1:=o1.cells (g:=g) rfl j hs[j] (List.getElem?_eq_getElem hj')
  rw [add0] at h1
  refine ⟨by rw [h1,List.getElem?_eq_getElem hj'],?_⟩
  unfold World.frozen?
  simp [hh]
def eqL (L M:List Sur):Bool:=decide (L = M)
def quz (L M:List Sur) (w wr:World) (k:Nat):Prop:=Below w.heap.size w wr/\∀ j,j < k->L[j]? = M[j]?
theorem q1n {L M:List Sur} {k:Nat} {s t:Sur} (h1:L[k]? = some s) (h2:M[k]? = some t) (h:(eqi s.1 t.1 && eqi s.2 t.2) = false):eqL L M = false:=by
 unfold eqL;rw [decide_eq_false_iff_not];rintro rfl
 rw [h1] at h2
 obtain rfl:=Option.some.inj h2
 simp [eqi] at h
theorem qy7 {L M:List Sur} {n:Nat} (h1:L.length = n) (h2:M.length = n) (h:∀ j,j < n->L[j]? = M[j]?):eqL L M = true:=by
 unfold eqL;rw [decide_eq_true_iff]
 refine List.ext_getElem? fun i=>?_
 by_cases hi:i < n
 ·exact h i hi
 ·rw [List.getElem?_eq_none (by omega),List.getElem?_eq_none (by omega)]
theorem qy8 {L M:List Sur} (h:L.length ≠ M.length):eqL L M = false:=by
 unfold eqL;rw [decide_eq_false_iff_not];rintro rfl;exact h rfl
theorem quz.step {L M:List Sur} {w wr w':World} {k:Nat} {s t:Sur} (h:quz L M w wr k) (hb:Below w.heap.size w w') (h1:L[k]? = some s) (h2:M[k]? = some t) (he:(eqi s.1 t.1 && eqi s.2 t.2) = true):quz L M w w' (k + 1):=by
 refine ⟨hb,fun j hj=>?_⟩
 by_cases e:j = k
 ·subst e
  have:s = t:=by
   simp [eqi] at he
   exact Prod.ext he.1 he.2
  rw [h1,h2,this]
 ·exact h.2 j (by omega)
theorem qka {w:World} {g o:Nat} {a b:Value} (h0:w.cell? ⟨g,o,none⟩ = some a) (h1:w.cell? ⟨g,o + 1,none⟩ = some b):w.rangeAt g o [a,b]:=by
 intro j v hv
 match j,hv with
 | 0,hv=>simp at hv;subst hv;simpa using h0
 | 1,hv=>simp at hv;subst hv;exact h1
set_option maxHeartbeats 2000000 in
theorem qy9 (A:Option Addr) (n c:Nat) (B:Option Addr) (m d:Nat) (L M:List Sur) (h1 h2:Nat) (w:World) (hx:Lrd w h1 (.slice A n c) L) (hy:Lrd w h2 (.slice B m d) M) (hn:n<=1048576) (hm:m<=1048576)
  (lL:∀ s ∈ L,s.1.length<=1048576/\s.2.length<=1048576) (lM:∀ s ∈ M,s.1.length<=1048576/\s.2.length<=1048576) :
  Calls sqp.prog 21 #[.slice A n c,.slice B m d] w fun e w'=>e = .returned (.bool (eqL L M))/\Below w.heap.size w w':=by
 have LX:Hid (L.length = n):=Lib.hid (by obtain ⟨A',n',c',e,h,_⟩:=hx;injection e with e1 e2 e3;subst e2;exact h)
 have LY:Hid (M.length = m):=Lib.hid (by obtain ⟨A',n',c',e,h,_⟩:=hy;injection e with e1 e2 e3;subst e2;exact h)
 have HX:=Lib.hid hx;have HY:=Lib.hid hy;have HL:=Lib.hid lL;have HM:=Lib.hid lM;clear hx hy lL lM
 by_cases hnm:n = m
 ·obtain rfl:m = n:=hnm.symm
  clear hnm
  go_enter sqp.func21,sqp.ntmps21
  go_wp2
  go_loopw [5] (fun i wr=>∃ k:Nat,k<=m/\i = .int .i64 k/\quz L M w wr k) (fun i _=>m - (intOf i).toNat)
  case atStart=>exact ⟨0,Nat.zero_le _,rfl,Below.refl _ _,fun j hj=>by omega⟩
  case round =>
   obtain ⟨k,hk,rfl,hs⟩:=hrel
   have HS:=Lib.hid hs;clear hs
   have hsz:=HS.out.1.size
   by_cases hlt:k < m
   ·obtain ⟨g,off,s,P,p,cp,Q,q,cq,rfl,hg,hsk,c0,c1,ss⟩:=(HX.out.keep (HS.out.1.mono HX.out.top) (Nat.le_refl _)).at_ hlt
    obtain ⟨g',off',t,P',p',cp',Q',q',cq',rfl,hg',htk,d0,d1,st⟩:=(HY.out.keep (HS.out.1.mono HY.out.top) (Nat.le_refl _)).at_ hlt
    have SK:=Lib.hid hsk;have TK:=Lib.hid htk;have SS:=Lib.hid ss;have ST:=Lib.hid st
    have ls:=HL.out s (List.mem_of_getElem? SK.out);have lt:=HM.out t (List.mem_of_getElem? TK.out)
    have hgw:g < wr.heap.size:=Nat.lt_of_lt_of_le hg (Nat.le_trans HX.out.top hsz)
    have hgw':g' < wr.heap.size:=Nat.lt_of_lt_of_le hg' (Nat.le_trans HY.out.top hsz)
    have RX:=Lib.hid (qka c0 c1);have RY:=Lib.hid (qka d0 d1)
    clear hsk htk ss st c0 c1 d0 d1
    go_wp2
    refine wp_region_held_drew (S:=fun W=>Below wr.heap.size wr W) (by kernel_rfl) ⟨rfl,rfl,rfl,Nat.le_refl _,fun _ _=>rfl⟩ (fun hHeld=>?_)
    have b1:Below wr.heap.size wr wr.drew:=hHeld
    have SD:=Lib.hid (SS.out.keep b1 (Nat.le_trans HX.out.top hsz));have TD:=Lib.hid (ST.out.keep b1 (Nat.le_trans HY.out.top hsz))
    generalize wr.drew = wd at *
    refine wpAnyH_take (i:=0) (v:=.slice (some ⟨g,off,none⟩) m c) rfl (by kernel_rfl) (by kernel_rfl) (by kernel_rfl) (fun _ _ _ h=>h) (Or.inl ⟨by rfl,fun w hSw=>by go_simp⟩) hHeld ?_
    refine wpAnyH_take (i:=1) (v:=.int .i64 k) rfl (by kernel_rfl) (by kernel_rfl) (by kernel_rfl) (fun _ _ _ h=>h) (Or.inl ⟨by rfl,fun w hSw=>by go_simp⟩) hHeld ?_
    refine wpAnyH_take (i:=4) (v:=.slice (some ⟨g',off',none⟩) m d) rfl (by kernel_rfl) (by kernel_rfl) (by kernel_rfl) (fun _ _ _ h=>h) (Or.inl ⟨by rfl,fun w hSw=>by go_simp⟩) hHeld ?_
    refine wpAnyH_take (i:=5) (v:=.int .i64 k) rfl (by kernel_rfl) (by kernel_rfl) (by kernel_rfl) (fun _ _ _ h=>h) (Or.inl ⟨by rfl,fun w hSw=>by go_simp⟩) hHeld ?_
    refine wpAnyH_take (i:=2) (v:=.pointer (some ⟨g,off + k * 2,none⟩)) rfl (by kernel_rfl) (by kernel_rfl) (by kernel_rfl) (fun _ _ _ h=>h) (Or.inl ⟨by rfl,fun w hSw=>by go_simp⟩) hHeld ?_
    refine wpAnyH_take (i:=6) (v:=.pointer (some ⟨g',off' + k * 2,none⟩)) rfl (by kernel_rfl) (by kernel_rfl) (by kernel_rfl) (fun _ _ _ h=>h) (Or.inl ⟨by rfl,fun w hSw=>by go_simp⟩) hHeld ?_
    refine wpAnyH_take (i:=3) (v:=.agg #[.slice P p cp,.slice Q q cq]) rfl (by kernel_rfl) (by kernel_rfl) (by kernel_rfl) (fun _ _ _ h=>h) (yieldsIf_load_mid (by rfl) _ _ rfl g (off + k * 2) rfl [.slice P p cp,.slice Q q cq] _ (fun w h j v hv=>by rw [Below.cell h (p:=⟨g,off + k * 2 + j,none⟩) hgw];exact RX.out j v hv) sqp.underlying32 rfl (qpo _ _)) hHeld ?_
    refine wpAnyH_take (i:=7) (v:=.agg #[.slice P' p' cp',.slice Q' q' cq']) rfl (by kernel_rfl) (by kernel_rfl) (by kernel_rfl) (fun _ _ _ h=>h) (yieldsIf_load_mid (by rfl) _ _ rfl g' (off' + k * 2) rfl [.slice P' p' cp',.slice Q' q' cq'] _ (fun w h j v hv=>by rw [Below.cell h (p:=⟨g',off' + k * 2 + j,none⟩) hgw'];exact RY.out j v hv) sqp.underlying32 rfl (qpo _ _)) hHeld ?_
    refine wpAnyH_ready (rs:=[8]) (by kernel_rfl) (by simp) (AllReadyH.cons rfl (fun K hK=>?_) AllReadyH.nil)
    go_simp
    refine (qzt _ _ s.1 s.2 t.1 t.2 _ _ _ SD.out TD.out ls.1 ls.2 lt.1 lt.2).mono ?_
    rintro e w2 ⟨rfl,b2⟩
    have hHeld2:Below wr.heap.size wr w2:=b1.trans (b2.mono b1.size)
    have B2:Hid (Below w.heap.size w w2):=Lib.hid (HS.out.1.trans (hHeld2.mono hsz))
    clear SD TD SS ST RX RY b1 b2 hHeld
    cases hz:(eqi s.1 t.1 && eqi s.2 t.2)
    ·have HZ:=Lib.hid hz;clear hz
     go_wp2_with fail
     refine hK.out _ _ hHeld2 (fun hHeld=>?_)
     clear hK K hHeld2
     refine wpAnyH_ready (rs:=[9]) (by kernel_rfl) (by simp) (AllReadyH.cons rfl (fun K hK=>?_) AllReadyH.nil)
     go_simp
     refine hK.out _ _ hHeld (fun hHeld2=>?_)
     clear hK K hHeld hHeld2
     refine wpAnyH_done (by kernel_rfl) ?_ _
     go_wp2_with fail
     go_ret
     exact ⟨qx (q1n SK.out TK.out HZ.out).symm,B2.out⟩
    ·have HZ:=Lib.hid hz;clear hz
     go_wp2_with fail
     refine hK.out _ _ hHeld2 (fun hHeld=>?_)
     clear hK K hHeld2
     refine wpAnyH_ready (rs:=[9]) (by kernel_rfl) (by simp) (AllReadyH.cons rfl (fun K hK=>?_) AllReadyH.nil)
     go_simp
     refine hK.out _ _ hHeld (fun hHeld2=>?_)
     clear hK K hHeld hHeld2
     refine wpAnyH_done (by kernel_rfl) ?_ _
     go_wp2_with fail
     go_roundw
     case rel=>exact ⟨k + 1,by omega,by go_num,HS.out.step B2.out SK.out TK.out HZ.out⟩
     case measure=>simp [intOf];omega
   ·obtain rfl:k = m:=by omega
    go_wp2
    go_ret
    exact ⟨qx (qy7 LX.out LY.out HS.out.2).symm,HS.out.1⟩
 ·have hb:((n:Int) != (m:Int)) = true:=by simp;omega
  have HB:eqL L M = false:=qy8 (by rw [LX.out,LY.out];exact hnm)
  have HB:=Lib.hid HB
  clear hnm
  go_enter sqp.func21,sqp.ntmps21
  go_wp2
  go_ret
  exact ⟨qx HB.out.symm,Below.refl _ _⟩
end Go.Proofs.Ytcdclihinmdgiaa.orb
