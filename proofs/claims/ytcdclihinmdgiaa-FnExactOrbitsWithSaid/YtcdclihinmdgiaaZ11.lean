import Derived.Test.YtcdclihinmdgiaaZ09
import Derived.Test.YtcdclihinmdgiaaZ10
import Derived.Test.YtcdclihinmdgiaaZ04
import Derived.Test.YtcdclihinmdgiaaZ07
import Derived.Test.YtcdclihinmdgiaaZ06
import Derived.RegionTactic
import Derived.BigRegion
import Derived.Test.YtcdclihinmdgiaaZ08
import Derived.Laws.Tables
import Derived.Deep.MidRow
namespace Go.Proofs.Ytcdclihinmdgiaa.lst
open Go.ChangeShapes Go.WideShapes Go.ChangeAt Go.RowKit
open mem ints arr pm sf orb
set_option linter.unusedVariables false
set_option maxRecDepth 100000
abbrev Item:=(Nat × Nat) × (Value × Value) × Sur
def sOf (z:Item):Sur:=z.2.2
def qo0 (Z:List Item):List Nat:=Z.flatMap fun z=>[z.1.1,z.1.2]
def qbs (Z:List Item):List Value:=Z.flatMap fun z=>[z.2.1.1,z.2.1.2]
structure Pk (w:World) (lo hi:Nat) (ex:Nat->Prop) (Z:List Item):Prop where
 top:hi<=w.heap.size
 each:∀ z ∈ Z,Rw1 w lo hi ex z.1.1 z.2.1.1 (sOf z).1/\Rw1 w lo hi ex z.1.2 z.2.1.2 (sOf z).2
 nd:(qo0 Z).Nodup
theorem Pk.perm {w:World} {lo hi:Nat} {ex:Nat->Prop} {Z Z':List Item} (h:Pk w lo hi ex Z) (p:Z.Perm Z'):Pk w lo hi ex Z' :=
 ⟨h.top,fun z hz=>h.each z (p.mem_iff.2 hz),(p.flatMap_right _).nodup_iff.1 h.nd⟩
theorem Pk.nil (w:World) (lo hi:Nat) (ex:Nat->Prop) (h:hi<=w.heap.size):Pk w lo hi ex []:=⟨h,fun z hz=>(by simp at hz),List.nodup_nil⟩
theorem Pk.sub {w:World} {lo hi:Nat} {ex:Nat->Prop} {Z Y:List Item} (h:Pk w lo hi ex (Z ++ Y)):Pk w lo hi ex Z:=by
 refine ⟨h.top,fun z hz=>h.each z (List.mem_append_left _ hz),?_⟩
 have:=h.nd
 unfold qo0 at this ⊢
 rw [List.flatMap_append] at this
 exact (List.nodup_append.1 this).1
theorem Pk.keep {w w':World} {lo hi:Nat} {ex:Nat->Prop} {Z:List Item} (h:Pk w lo hi ex Z) (hz:w.heap.size<=w'.heap.size) (hk:∀ b,lo<=b->b < hi->¬ ex b->w'.heap[b]? = w.heap[b]?):Pk w' lo hi ex Z :=
 ⟨Nat.le_trans h.top hz,fun z q=>by
  obtain ⟨a,b⟩:=h.each z q
  exact ⟨a.keep (hk _ a.lo_ a.hi_ a.ex_) hz,b.keep (hk _ b.lo_ b.hi_ b.ex_) hz⟩,h.nd⟩
theorem Pk.to {w:World} {lo hi lo' hi':Nat} {ex ex':Nat->Prop} {Z:List Item} (h:Pk w lo hi ex Z) (h1:lo'<=lo) (h2:hi<=hi') (h3:hi'<=w.heap.size)
  (he:∀ b,lo<=b->b < hi->¬ ex b->¬ ex' b):Pk w lo' hi' ex' Z :=
 ⟨h3,fun z q=>by
  obtain ⟨a,b⟩:=h.each z q
  exact ⟨a.to h1 h2 (he _ a.lo_ a.hi_ a.ex_),b.to h1 h2 (he _ b.lo_ b.hi_ b.ex_)⟩,h.nd⟩
theorem qwy:∀ Z:List Item,(qbs Z).length = Z.length * 2
 | []=>rfl
 | z :: t=>by
  have:=qwy t
  unfold qbs at this ⊢
  rw [List.flatMap_cons,List.length_append,this,List.length_cons]
  simp;omega
theorem qwz (Z Y:List Item):qbs (Z ++ Y) = qbs Z ++ qbs Y:=by simp [qbs]
theorem qx1:∀ {Z:List Item} {k:Nat} {z:Item},Z[k]? = some z->(qbs Z)[k * 2]? = some z.2.1.1/\(qbs Z)[k * 2 + 1]? = some z.2.1.2
 | [],k,z,h=>by simp at h
 | y :: t,0,z,h=>by
  obtain rfl:y = z:=by simpa using h
  simp [qbs]
 | y :: t,k + 1,z,h=>by
  have:=qx1 (Z:=t) (k:=k) (z:=z) (by simpa using h)
  unfold qbs at this ⊢
  rw [List.flatMap_cons,show (k + 1) * 2 = k * 2 + 1 + 1 by omega]
  simpa using this
theorem qw0 {Z:List Item} {z:Item} (h:z ∈ Z):z.1.1 ∈ qo0 Z/\z.1.2 ∈ qo0 Z:=by
 unfold qo0
 exact ⟨List.mem_flatMap.2 ⟨z,h,by simp⟩,List.mem_flatMap.2 ⟨z,h,by simp⟩⟩
theorem qek {z:Item} {Z:List Item}:(qo0 (z :: Z)).Nodup ↔ z.1.1 ≠ z.1.2/\z.1.1 ∉ qo0 Z/\z.1.2 ∉ qo0 Z/\(qo0 Z).Nodup:=by
 unfold qo0
 rw [List.flatMap_cons]
 show (z.1.1 :: z.1.2 :: (Z.flatMap fun z=>[z.1.1,z.1.2])).Nodup ↔ _
 rw [List.nodup_cons,List.nodup_cons,List.mem_cons,not_or]
 exact ⟨fun ⟨⟨a,b⟩,c,d⟩=>⟨a,b,c,d⟩,fun ⟨a,b,c,d⟩=>⟨⟨a,b⟩,c,d⟩⟩
def qt9 (Z:List Item) (k:Nat):Nat × Nat:=(Z[k]?.map fun z=>z.1).getD (0,0)
theorem q0w:∀ {Z:List Item},(qo0 Z).Nodup->∀ (i j:Nat) (y z:Item),Z[i]? = some y->Z[j]? = some z->i ≠ j->y.1.1 ≠ z.1.1/\y.1.1 ≠ z.1.2/\y.1.2 ≠ z.1.2
 | [],_,i,j,y,z,h,_,_=>by simp at h
 | x :: t,h,0,0,y,z,hy,hz,hn=>absurd rfl hn
 | x :: t,h,0,j + 1,y,z,hy,hz,hn=>by
  obtain rfl:x = y:=by simpa using hy
  obtain ⟨a,b,c,d⟩:=qek.1 h
  have:=qw0 (List.mem_of_getElem? (show t[j]? = some z by simpa using hz))
  exact ⟨fun e=>b (e ▸ this.1),fun e=>b (e ▸ this.2),fun e=>c (e ▸ this.2)⟩
 | x :: t,h,i + 1,0,y,z,hy,hz,hn=>by
  obtain rfl:x = z:=by simpa using hz
  obtain ⟨a,b,c,d⟩:=qek.1 h
  have:=qw0 (List.mem_of_getElem? (show t[i]? = some y by simpa using hy))
  exact ⟨fun e=>b (e ▸ this.1),fun e=>c (e ▸ this.1),fun e=>c (e ▸ this.2)⟩
 | x :: t,h,i + 1,j + 1,y,z,hy,hz,hn=>q0w (qek.1 h).2.2.2 i j y z (by simpa using hy) (by simpa using hz) (by omega)
theorem Pk.ls {w:World} {lo hi:Nat} {ex:Nat->Prop} {Z:List Item} (h:Pk w lo hi ex Z):Ls w lo hi ex (qt9 Z) (qbs Z) (Z.map sOf):=by
 refine ⟨by rw [qwy,List.length_map],h.top,fun k s hk=>?_,fun i j hi hj hij=>?_⟩
 ·rw [List.getElem?_map] at hk
  cases hz:Z[k]? with
  | none=>rw [hz] at hk;simp at hk
  | some z =>
   rw [hz] at hk
   obtain rfl:sOf z = s:=by simpa using hk
   obtain ⟨a,b⟩:=h.each z (List.mem_of_getElem? hz)
   have eb:qt9 Z k = z.1:=by simp [qt9,hz]
   obtain ⟨e1,e2⟩:=qx1 hz
   refine ⟨_,_,e1,e2,by rw [eb];exact a,by rw [eb];exact b,?_⟩
   rw [eb]
   obtain ⟨p,q,e⟩:=List.append_of_mem (List.mem_of_getElem? hz)
   have hp:Z.Perm (z :: (p ++ q)):=by rw [e];exact List.perm_middle
   exact (qek.1 (h.perm hp).nd).1
 ·rw [List.length_map] at hi hj
  have ei:=List.getElem?_eq_getElem hi
  have ej:=List.getElem?_eq_getElem hj
  have e1:qt9 Z i = Z[i].1:=by simp [qt9,ei]
  have e2:qt9 Z j = Z[j].1:=by simp [qt9,ej]
  rw [e1,e2]
  exact q0w h.nd i j _ _ ei ej hij
def xg (z:Item) (o:List Item × Bool) (x:Item):List Item × Bool :=
 if !(o.2 || decide (sOf x = sOf z)) && bef (sOf z) (sOf x) then (o.1 ++ [z,x],true) else (o.1 ++ [x],o.2 || decide (sOf x = sOf z))
def qa1 (z:Item) (Z:List Item):List Item × Bool:=Z.foldl (xg z) ([],false)
def qm7 (z:Item) (Z:List Item):List Item:=if (qa1 z Z).2 then (qa1 z Z).1 else (qa1 z Z).1 ++ [z]
theorem qo1 (z:Item) (Z:List Item) (x:Item):qa1 z (Z ++ [x]) = xg z (qa1 z Z) x:=by simp [qa1]
theorem qo2 {z:Item} {Z:List Item} {k:Nat} {x:Item} (h:Z[k]? = some x):qa1 z (Z.take (k + 1)) = xg z (qa1 z (Z.take k)) x:=by
 rw [List.take_add_one,h]
 exact qo1 _ _ _
theorem qh7 (z:Item):∀ (Z acc:List Item) (d:Bool),(let o:=Z.foldl (xg z) (acc,d);(if o.2 then o.1 else o.1 ++ [z]).map sOf) = acc.map sOf ++ qbe (Z.map sOf) (sOf z) d
 | [],acc,d=>by cases d <;> simp [qbe]
 | x :: t,acc,d=>by
  rw [List.foldl_cons]
  show _ = acc.map sOf ++ qbe (sOf x :: t.map sOf) (sOf z) d
  rw [qbe]
  by_cases h:(!(d || decide (sOf x = sOf z)) && bef (sOf z) (sOf x)) = true
  ·have e:xg z (acc,d) x = (acc ++ [z,x],true):=by simp only [xg,h,if_true]
   rw [e,qh7 z t,if_pos h]
   simp
  ·have e:xg z (acc,d) x = (acc ++ [x],d || decide (sOf x = sOf z)):=by
    simp only [xg]
    rw [if_neg h]
   rw [e,qh7 z t,if_neg h]
   simp
theorem qm8 (z:Item) (Z:List Item):(qm7 z Z).map sOf = qbe (Z.map sOf) (sOf z) false:=by
 exact (qh7 z Z [] false).trans (List.nil_append _)
theorem qel (z:Item):∀ (Z acc:List Item) (d:Bool),∃ Y,((Z.foldl (xg z) (acc,d)).1).Perm (Y ++ (acc ++ Z))/\(Y = []\/(Y = [z]/\d = false/\(Z.foldl (xg z) (acc,d)).2 = true))
 | [],acc,d=>⟨[],by simp,.inl rfl⟩
 | x :: t,acc,d=>by
  rw [List.foldl_cons]
  by_cases h:(!(d || decide (sOf x = sOf z)) && bef (sOf z) (sOf x)) = true
  ·have e:xg z (acc,d) x = (acc ++ [z,x],true):=by simp only [xg,h,if_true]
   have hd:d = false:=by
    cases d
    ·rfl
    ·simp at h
   rw [e]
   obtain ⟨Y,p,q⟩:=qel z t (acc ++ [z,x]) true
   rcases q with rfl | ⟨_,q,_⟩
   ·refine ⟨[z],?_,.inr ⟨rfl,hd,?_⟩⟩
    ·refine p.trans ?_
     rw [List.nil_append,List.append_assoc]
     show (acc ++ z :: x :: t).Perm (z :: (acc ++ x :: t))
     exact List.perm_middle
    ·exact ins_done z t _
   ·cases q
  ·have e:xg z (acc,d) x = (acc ++ [x],d || decide (sOf x = sOf z)):=by
    simp only [xg]
    rw [if_neg h]
   rw [e]
   obtain ⟨Y,p,q⟩:=qel z t (acc ++ [x]) (d || decide (sOf x = sOf z))
   refine ⟨Y,by rw [List.append_assoc] at p;exact p,?_⟩
   rcases q with rfl | ⟨q1,q2,q3⟩
   ·exact .inl rfl
   ·refine .inr ⟨q1,?_,q3⟩
    cases d
    ·rfl
    ·simp at q2
where ins_done (z:Item):∀ (Z acc:List Item),(Z.foldl (xg z) (acc,true)).2 = true
 | [],acc=>rfl
 | x :: t,acc=>by
  rw [List.foldl_cons]
  have e:xg z (acc,true) x = (acc ++ [x],true):=by simp [xg]
  rw [e]
  exact ins_done z t _
theorem qjl (z:Item) (Z:List Item):(qm7 z Z).Perm Z\/(qm7 z Z).Perm (z :: Z):=by
 obtain ⟨Y,p,q⟩:=qel z Z [] false
 unfold qm7 qa1
 rcases q with rfl | ⟨rfl,_,q3⟩
 ·split
  ·exact .inl (by simpa using p)
  ·refine .inr ?_
   refine (p.append_right [z]).trans ?_
   simp only [List.nil_append]
   exact List.perm_append_comm
 ·rw [if_pos q3]
  exact .inr (by simpa using p)
theorem Pk.ins {w:World} {lo hi:Nat} {ex:Nat->Prop} {Z:List Item} {z:Item} (h:Pk w lo hi ex (z :: Z)):Pk w lo hi ex (qm7 z Z):=by
 rcases qjl z Z with p | p
 ·have hz:Pk w lo hi ex Z:=by
   have:=h.perm (show (z :: Z).Perm (Z ++ [z]) from (List.perm_append_comm (l₁:=[z]) (l₂:=Z)))
   exact this.sub
  exact hz.perm p.symm
 ·exact h.perm p.symm
end Go.Proofs.Ytcdclihinmdgiaa.lst

namespace Go.Proofs.Ytcdclihinmdgiaa.fns
open Go.ChangeShapes Go.WideShapes Go.ChangeAt Go.RowKit
open mem ints arr pm permOk permOf inv
set_option linter.unusedVariables false
set_option maxRecDepth 100000
theorem Made.drew {n:Nat} {w wr:World} {l:List Int} (h:Made n w wr l):Made n w wr.drew l:=⟨h.1.drew,⟨h.2.os,h.2.tape,h.2.output,h.2.size,h.2.block⟩⟩
set_option maxHeartbeats 1000000 in
theorem qht (A:Option Addr) (n c:Nat) (B:Option Addr) (m d:Nat) (xs ys:List Int) (h1 h2:Nat) (w:World) (hx:Rd w h1 A n (V xs)) (hy:Rd w h2 B m (V ys)) (ok:Ok xs) (oky:Ok ys) (hnm:n = m) :
  Calls sqp.prog 66 #[.slice A n c,.slice B m d] w (Gives (dz n xs ys n) w):=by
 subst hnm
 obtain ⟨i0,hi0,hz0,hz1,hz2⟩:=info_parts qeo
 have lx:xs.length = n:=by simpa [V] using hx.1
 have ly:ys.length = n:=by simpa [V] using hy.1
 have hn:n<=24:=by have:=ok.len;omega
 have LX:=Lib.hid lx;have LY:=Lib.hid ly;clear lx ly
 have OK:=Lib.hid ok;have OKY:=Lib.hid oky;clear ok oky
 have HX:=Lib.hid hx;have HY:=Lib.hid hy;clear hx hy
 have HZ2:=Lib.hid hz2;clear hz2
 go_enter sqp.func66,sqp.ntmps66
 go_wp2_with (at_make;refine wpList_make_full _ rfl _ _ 30 rfl w.heap.size 3 i0 _ 1 sqp.underlying30 hi0 hz0 hz1 _ _ _ _ n rfl rfl rfl rfl ?b2 ?b3 (Nat.le_refl _) ?_)
 case b2=>rw [HZ2.out];omega
 case b3=>unfold maxLen;omega
 intro w1 hown hg
 have hb1:Below w.heap.size w w1:=(Below.refl _ _).grown hg (Nat.le_refl _) (by simp)
 have HM:Hid (Made n w w1 (dz n xs ys 0)):=Lib.hid ⟨by simpa [dz,qhd,V,toList_madeCells_one] using hown,hb1⟩
 clear hown hg hb1
 go_wp2
 go_loopw [13] (fun i wr=>∃ k:Nat,k<=n/\i = .int .i64 k/\Made n w wr (dz n xs ys k)) (fun i _=>n - (intOf i).toNat)
 case atStart=>exact ⟨0,Nat.zero_le _,rfl,HM.out⟩
 case round =>
  obtain ⟨k,hk,rfl,hm⟩:=hrel
  have HR:=Lib.hid hm;clear hm HM
  by_cases hlt:k < n
  ·obtain ⟨g,off,u,rfl,hgl,hxu,hcx⟩:=HX.out.at_ hlt
   obtain ⟨s,hxs,rfl⟩:=qhb hxu
   obtain ⟨z,hz,hqz,hqd⟩:=Ok.nat OK.out (k:=k) (by rw [LX.out];exact hlt)
   rw [hqz] at hxs
   obtain rfl:=Option.some.inj hxs
   rw [LX.out] at hz
   obtain ⟨g',off',u',e',hgl',hyu,hcy⟩:=HY.out.at_ hz
   obtain ⟨t,hyt,rfl⟩:=qhb hyu
   obtain ⟨g2,off2,u2,rfl,hgl2,hyu2,hcy2⟩:=HY.out.at_ hlt
   injection e' with e';injection e' with e1 e2;subst e1;subst e2
   obtain ⟨t2,hyt2,rfl⟩:=qhb hyu2
   obtain ⟨z2,hz2,hqz2,hqd2⟩:=Ok.nat OKY.out (k:=k) (by rw [LY.out];exact hlt)
   rw [hqz2] at hyt2
   obtain rfl:=Option.some.inj hyt2
   rw [LY.out] at hz2
   have hgw:g < w.heap.size:=Nat.lt_of_lt_of_le hgl HX.out.2.1
   have hgw':g2 < w.heap.size:=Nat.lt_of_lt_of_le hgl' HY.out.2.1
   rw [<-HR.out.2.cell (p:=⟨g,off + k,none⟩) hgw] at hcx
   rw [<-HR.out.2.cell (p:=⟨g2,off2 + z,none⟩) hgw'] at hcy
   rw [<-HR.out.2.cell (p:=⟨g2,off2 + k,none⟩) hgw'] at hcy2
   have hc:=HR.out.cell hz2
   have hf:=HR.out.1.frozenAt z2
   have HD:=Lib.hid hqd;have HD2:=Lib.hid hqd2;have HT:=Lib.hid (permOk.qes hyt);clear hqd hqz hxs hxu hyu hyt hqz2 hqd2 hyt2 hyu2
   go_wp2
   go_region
   go_wp2
   go_roundw
   case rel =>
    refine ⟨k + 1,by omega,by go_num,?_⟩
    rw [qpj,HD.out,HD2.out,Int.toNat_natCast,Int.toNat_natCast,HT.out]
    exact (HR.out.qjo z2 _).drew
   case measure=>simp [intOf];omega
  ·obtain rfl:k = n:=by omega
   go_wp2
   go_ret
   exact ⟨_,rfl,by rw [xk];exact HR.out.1,HR.out.2⟩
end Go.Proofs.Ytcdclihinmdgiaa.fns

namespace Go.Proofs.Ytcdclihinmdgiaa.gl
open Go.ChangeShapes Go.WideShapes Go.ChangeAt Go.RowKit
open mem ints arr pm permOk permOf inv fns sf
set_option linter.unusedVariables false
set_option maxRecDepth 100000
def gl (p q:List Int) (n:Nat):List Int:=p ++ q ++ [(n:Int)]
def qp:List Int:=List.replicate 49 0
theorem jg {p q:List Int} (hp:p.length = 24) (hq:q.length = 24) (n:Nat):(gl p q n).length = 49:=by simp [gl,hp,hq]
theorem qen:qp.length = 49:=by simp [qp]
theorem qj1:(sqp.prog.info? 43).map (·.size) = some 49:=by kernel_rfl
theorem zu {l:List Int} (h:l.length = 49):(sqp.prog.info? 43).map (·.size) = some (V l).toArray.size:=by rw [qj1];simp [V,h]
theorem qho {l:List Int} (h:l.length = 24):∃ a0 a1 a2 a3 a4 a5 a6 a7 a8 a9 b0 b1 b2 b3 b4 b5 b6 b7 b8 b9 c0 c1 c2 c3,l = [a0,a1,a2,a3,a4,a5,a6,a7,a8,a9,b0,b1,b2,b3,b4,b5,b6,b7,b8,b9,c0,c1,c2,c3]:=by
 match l,h with
 | [a0,a1,a2,a3,a4,a5,a6,a7,a8,a9,b0,b1,b2,b3,b4,b5,b6,b7,b8,b9,c0,c1,c2,c3],_=>exact ⟨a0,a1,a2,a3,a4,a5,a6,a7,a8,a9,b0,b1,b2,b3,b4,b5,b6,b7,b8,b9,c0,c1,c2,c3,rfl⟩
theorem qbw {p q:List Int} (hp:p.length = 24) (hq:q.length = 24) (n:Nat) :
  sqp.prog.built 43 [(0,.agg (V p).toArray),(1,.agg (V q).toArray),(2,.int .i64 n)] = some (V (gl p q n)).toArray:=by
 obtain ⟨a0,a1,a2,a3,a4,a5,a6,a7,a8,a9,b0,b1,b2,b3,b4,b5,b6,b7,b8,b9,c0,c1,c2,c3,rfl⟩:=qho hp
 obtain ⟨a0',a1',a2',a3',a4',a5',a6',a7',a8',a9',b0',b1',b2',b3',b4',b5',b6',b7',b8',b9',c0',c1',c2',c3',rfl⟩:=qho hq
 kernel_rfl
theorem qo9:sqp.prog.built 43 [] = some (V qp).toArray:=by kernel_rfl
theorem wpList_build {P:Program} {ops:Array Oper} {rest:List Oper} {o:Oper} {a:Act} {w:World} {Q:Exit->Act->World->Prop} (hgd:o.guard = none) (t:TypeId) (parts:Array (Nat × Operand)) (ho:o.op = .build t parts)
  (l:List (Nat × Value)) (hl:(parts.toList.map fun p=>(p.1,a.eval p.2)) = l) (cells:Array Value) (hb:P.built t l = some cells)
  (h:wpList P ops Q rest (a.put o.dst (.agg cells)) w):wpList P ops Q (o :: rest) a w:=by
 have hb':P.built t (parts.map fun (i,x)=>(i,a.eval x)).toList = some cells:=by
  rw [Array.toList_map]
  subst hl
  exact hb
 refine wpList_plain hgd fun K hK=>wp_build t parts ho (by rw [hb'];rfl) ?_
 rw [hb']
 exact hK _ _ h
theorem qul {w:World} {b:Nat} {p q:List Int} {n:Nat} {t:TypeId} (hp:p.length = 24) (hq:q.length = 24) (h:Arr w b (V (gl p q n)) t):w.cell? ⟨b,48,none⟩ = some (.int .i64 n):=by
 refine h.cell ?_
 simp only [gl,V,List.map_append]
 rw [List.getElem?_append_right (by simp;omega)]
 simp [hp,hq]
theorem qum {p q:List Int} {n k:Nat} (hp:p.length = 24) (hk:k < 24):(gl p q n).getD k 0 = p.getD k 0:=by
 simp only [gl,List.append_assoc,List.getD]
 rw [List.getElem?_append_left (by omega)]
theorem q3g {p q:List Int} {n k:Nat} (hp:p.length = 24) (hq:q.length = 24) (hk:k < 24):(gl p q n).getD (24 + k) 0 = q.getD k 0:=by
 simp only [gl,List.append_assoc,List.getD]
 rw [List.getElem?_append_right (by omega),List.getElem?_append_left (by omega)]
 congr 2;omega
theorem Srd.fst {w:World} {hi:Nat} {P Q:Option Addr} {n c m d:Nat} {r u:List Int} (h:Srd w hi (.agg #[.slice P n c,.slice Q m d]) r u):Rd w hi P n (V r):=by
 obtain ⟨P',n',c',Q',m',d',e,a,b,_⟩:=h
 simp at e
 obtain ⟨⟨rfl,rfl,rfl⟩,rfl,rfl,rfl⟩:=e
 exact a
theorem Srd.snd {w:World} {hi:Nat} {P Q:Option Addr} {n c m d:Nat} {r u:List Int} (h:Srd w hi (.agg #[.slice P n c,.slice Q m d]) r u):Rd w hi Q m (V u):=by
 obtain ⟨P',n',c',Q',m',d',e,a,b,_⟩:=h
 simp at e
 obtain ⟨⟨rfl,rfl,rfl⟩,rfl,rfl,rfl⟩:=e
 exact b
def glv (r u:List Int):List Int:=if zh r u then gl (ext r) (ext u) r.length else qp
theorem qie (r u:List Int):(glv r u).length = 49:=by unfold glv;split;exact jg (qc _) (qc _) _;exact qen
theorem qrf {r u:List Int} (h:zh r u = true):glv r u = gl (ext r) (ext u) r.length:=by simp [glv,h]
theorem q1d {r u:List Int} (h:zh r u = false):glv r u = qp:=by simp [glv,h]
def q1e (r u:List Int) (w:World) (e:Ending) (w':World):Prop:=e = .returned (.tuple #[.agg (V (glv r u)).toArray,.bool (zh r u)])/\Below w.heap.size w w'
theorem q1f {r u l:List Int} {w w':World} {b:Bool} (h:zh r u = b) (hl:glv r u = l) (hb:Below w.heap.size w w'):q1e r u w (.returned (.tuple #[.agg (V l).toArray,.bool b])) w':=by
 subst h;subst hl;exact ⟨rfl,hb⟩
set_option maxHeartbeats 4000000 in
theorem qj2 (v:Value) (r u:List Int) (hi:Nat) (w:World) (hx:Srd w hi v r u) (hn:r.length<=1048576) (hm:u.length<=1048576) :
  Calls sqp.prog 35 #[v] w (q1e r u w):=by
 have HX:=Lib.hid hx;clear hx
 obtain ⟨P,n,c,Q,m,d,rfl,q1,q2,e1,e2,ht,HR⟩:=HX.out.open
 have L1:=Lib.hid q1
 have N0:=Lib.hid (fun o=>Arr.new (w.alloc o) (V qp) 43 (g:=w.heap.size + 1) (by simp))
 have B0:Hid (∀ a b,Below w.heap.size w ((w.alloc a).alloc b)):=Lib.hid (fun a b=>((Below.refl _ _).alloc (Nat.le_refl _) _).alloc (by simp) _)
 go_enter sqp.func35,sqp.ntmps35
 go_wp2_with fail
 refine (qzu _ r u hi _ (HX.out.keep (((Below.refl hi w).alloc ht _).alloc (by simp;omega) _) (Nat.le_refl _)) hn hm).mono ?_
 rintro e w1 ⟨rfl,b1⟩
 have hs1:w.heap.size + 2<=w1.heap.size:=by have:=b1.size;simpa using this
 have A0:=Lib.hid (((Arr.new w [.slice P n c,.slice Q m d] 32 rfl).alloc _).keep b1 (by simp <;> omega))
 have A1:=Lib.hid ((N0.out _).keep b1 (by simp))
 have B1:Hid (Below w.heap.size w w1):=Lib.hid ((B0.out _ _).trans (b1.mono (by simp <;> omega)))
 clear b1 N0
 cases hq:zh r u
 ·have HQ:=Lib.hid hq;clear hq
  have HG:=Lib.hid (q1d HQ.out)
  go_wp2_with (first | (refine wpList_build rfl 43 _ rfl [] rfl (V qp).toArray qo9 ?_) | (refine wpList_store_row rfl 43 _ _ rfl (w.heap.size + 1) (V qp).toArray rfl rfl 43 (V qp).toArray A1.out (zu qen) rfl (zy _) ?_))
  exact bodyPost_ret (v:=.tuple #[.agg (V qp).toArray,.bool false]) (permOf.results_cell_tmp rfl _ _ (w.heap.size + 1) 43 (V qp).toArray (0,0) _ _ rfl rfl A1.out.row sqp.underlying43 rfl (zu qen)) rfl (q1f HQ.out HG.out (below_setRow B1.out (by omega) _))
 ·have hok:=(ku.1 hq)
  have HQ:=Lib.hid hq;clear hq
  have HG:=Lib.hid (qrf HQ.out)
  have HB:Hid (qd3 r u = true):=Lib.hid (qc7.2 ⟨hok.r.b,hok.u.b,by rw [hok.lu]⟩)
  have HS:=Lib.hid hok;clear hok
  have c0:=A0.out.cell (k:=0) rfl
  have c1:=A0.out.cell (k:=1) rfl
  go_wp2_with fail
  refine (qay P n c Q m d r u hi hi _ (Srd.fst (HX.out.keep (B1.out.mono (by omega)) (Nat.le_refl _))) (Srd.snd (HX.out.keep (B1.out.mono (by omega)) (Nat.le_refl _))) (by omega) (by omega) (by omega) (by omega)).mono ?_
  rintro e w2 ⟨rfl,b2⟩
  rw [HB.out,if_pos rfl,if_pos rfl]
  have hs2:=b2.size
  replace A0:=Lib.hid (A0.out.keep b2 A0.out.lt)
  replace A1:=Lib.hid (A1.out.keep b2 A1.out.lt)
  replace B1:Hid (Below w.heap.size w w2):=Lib.hid (B1.out.trans (b2.mono B1.out.size))
  clear b2 c0 c1
  go_wp2_with (first | (refine wpList_store_row rfl 41 (.tmp 4) (.tmp 17) rfl w2.heap.size (V (ext r)).toArray rfl rfl 41 (V zeros).toArray ((Arr.new w2 (V zeros) _ rfl).alloc _) (qo (qc _)) (by simp [q8,qc,zeros]) (zy _) ?_;generalize hw3:((w2.alloc (.cells #[.int .i64 0,.int .i64 0,.int .i64 0,.int .i64 0,.int .i64 0,.int .i64 0,.int .i64 0,.int .i64 0,.int .i64 0,.int .i64 0,.int .i64 0,.int .i64 0,.int .i64 0,.int .i64 0,.int .i64 0,.int .i64 0,.int .i64 0,.int .i64 0,.int .i64 0,.int .i64 0,.int .i64 0,.int .i64 0,.int .i64 0,.int .i64 0] 41)).alloc (.cells #[.int .i64 0,.int .i64 0,.int .i64 0,.int .i64 0,.int .i64 0,.int .i64 0,.int .i64 0,.int .i64 0,.int .i64 0,.int .i64 0,.int .i64 0,.int .i64 0,.int .i64 0,.int .i64 0,.int .i64 0,.int .i64 0,.int .i64 0,.int .i64 0,.int .i64 0,.int .i64 0,.int .i64 0,.int .i64 0,.int .i64 0,.int .i64 0] 41)).setRow w2.heap.size (V (ext r)).toArray = w3;have S1:Hid (Arr w3 w2.heap.size (V (ext r)) 41):=Lib.hid (by rw [<-hw3];exact ((Arr.new w2 (V zeros) _ rfl).alloc _).row);have S2:Hid (Arr w3 (w2.heap.size + 1) (V zeros) 41):=Lib.hid (by rw [<-hw3];exact (Arr.new _ (V zeros) _ (by simp)).qh (by omega));have b3:Below w2.heap.size w2 w3:=(by rw [<-hw3];exact arr.below_setRow (((Below.refl _ _).alloc (Nat.le_refl _) _).alloc (by simp) _) (Nat.le_refl _) _);replace A0:=Lib.hid (A0.out.keep b3 A0.out.lt);replace A1:=Lib.hid (A1.out.keep b3 A1.out.lt);replace B1:Hid (Below w.heap.size w w3):=Lib.hid (B1.out.trans (b3.mono B1.out.size));clear hw3 b3) | (refine wpList_store_row rfl 41 (.tmp 5) (.tmp 18) rfl (w2.heap.size + 1) (V (ext u)).toArray rfl rfl 41 (V zeros).toArray S2.out (qo (qc _)) (by simp [q8,qc,zeros]) (zy _) ?_;generalize hw4:w3.setRow (w2.heap.size + 1) (V (ext u)).toArray = w4;have T1:Hid (Arr w4 w2.heap.size (V (ext r)) 41):=Lib.hid (by rw [<-hw4];exact S1.out.qh (by omega));have T2:Hid (Arr w4 (w2.heap.size + 1) (V (ext u)) 41):=Lib.hid (by rw [<-hw4];exact S2.out.row);have b4:Below w2.heap.size w3 w4:=(by rw [<-hw4];exact arr.below_setRow (Below.refl _ _) (by omega) _);replace A0:=Lib.hid (A0.out.keep b4 (by omega));replace A1:=Lib.hid (A1.out.keep b4 (by omega));replace B1:Hid (Below w.heap.size w w4):=Lib.hid (B1.out.trans (b4.mono (by omega)));have c0:=A0.out.cell (k:=0) rfl;clear hw4 S1 S2 b4) | (refine wpList_load_row rfl 41 (.tmp 4) rfl w2.heap.size rfl 41 (V (ext r)).toArray (0,0) _ T1.out sqp.underlying41 rfl (qo (qc _)) ?_) | (refine wpList_load_row rfl 41 (.tmp 5) rfl (w2.heap.size + 1) rfl 41 (V (ext u)).toArray (0,0) _ T2.out sqp.underlying41 rfl (qo (qc _)) ?_) | (refine wpList_build rfl 43 _ rfl [(0,.agg (V (ext r)).toArray),(1,.agg (V (ext u)).toArray),(2,.int .i64 n)] rfl (V (gl (ext r) (ext u) n)).toArray (qbw (qc _) (qc _) n) ?_) | (refine wpList_store_row rfl 43 _ _ rfl (w.heap.size + 1) (V (gl (ext r) (ext u) n)).toArray rfl rfl 43 (V qp).toArray A1.out (zu (jg (qc _) (qc _) n)) (by simp [q8,jg,qc,qp]) (zy _) ?_))
  exact bodyPost_ret (v:=.tuple #[.agg (V (gl (ext r) (ext u) n)).toArray,.bool true]) (permOf.results_cell_tmp rfl _ _ (w.heap.size + 1) 43 (V (gl (ext r) (ext u) n)).toArray (0,0) _ _ rfl rfl A1.out.row sqp.underlying43 rfl (zu (jg (qc _) (qc _) n))) rfl (q1f HQ.out (by rw [HG.out,L1.out]) (below_setRow B1.out (by omega) _))
end Go.Proofs.Ytcdclihinmdgiaa.gl

namespace Go.Proofs.Ytcdclihinmdgiaa.gl
open Go.ChangeShapes Go.WideShapes Go.ChangeAt Go.RowKit
open mem ints arr pm permOk permOf inv fns sf
set_option linter.unusedVariables false
set_option maxRecDepth 100000
theorem qae {w:World} {b:Nat} {p q:List Int} {n:Nat} (hp:p.length = 24) (h:w.rangeAt b 0 (V (gl p q n))):w.rangeAt b 0 (V p):=fun j v hv=>by
 have hj:j < 24:=by have:=(List.getElem?_eq_some_iff.1 hv).1;simpa [V,hp] using this
 refine h j v ?_
 rw [<-hv]
 simp only [gl,V,List.map_append,List.append_assoc]
 rw [List.getElem?_append_left (by simp;omega)]
theorem qj4 {w:World} {b:Nat} {p q:List Int} {n:Nat} (hp:p.length = 24) (hq:q.length = 24) (h:w.rangeAt b 0 (V (gl p q n))):w.rangeAt b 24 (V q):=fun j v hv=>by
 have hj:j < 24:=by have:=(List.getElem?_eq_some_iff.1 hv).1;simpa [V,hq] using this
 have:=h (24 + j) v (by
  rw [<-hv]
  simp only [gl,V,List.map_append,List.append_assoc]
  rw [List.getElem?_append_right (by simp;omega),List.getElem?_append_left (by simp;omega)]
  congr 1;simp;omega)
 rwa [Nat.zero_add] at this
theorem qby {w:World} {b:Nat} {p q:List Int} {n:Nat} (hp:p.length = 24) (hq:q.length = 24) (h:w.rangeAt b 0 (V (gl p q n))):w.cell? ⟨b,48,none⟩ = some (.int .i64 n):=by
 have:=h 48 (.int .i64 n) (by
  simp only [gl,V,List.map_append]
  rw [List.getElem?_append_right (by simp;omega)]
  simp [hp,hq])
 rwa [Nat.zero_add] at this
theorem qii {l:List Int} (h:l.length = 24):(sqp.prog.info? 41).map (·.size) = some (V l).length:=by rw [qjp,q8,h]
theorem q3h {l:List Int} (h:l.length = 49):(sqp.prog.info? 43).map (·.size) = some (V l).length:=by rw [qj1,q8,h]
theorem _root_.Go.Proofs.Ytcdclihinmdgiaa.sf.Hld.lower {base base' top:Nat} {w W:World} {bs:List (Nat × List Value)} (h:Hld base top w bs W) (hb:base'<=base):Hld base' top w bs W:=⟨h.at_,h.below.mono hb,h.size⟩
theorem _root_.Go.Proofs.Ytcdclihinmdgiaa.sf.Hld.qxc {w:World} {a b c:Nat} {xs ys zs:List Value} {t t' t'':TypeId} (h1:Arr w a xs t) (h2:Arr w b ys t') (h3:Arr w c zs t''):Hld w.heap.size w.heap.size w [(a,xs),(b,ys),(c,zs)] w.drew :=
 ⟨fun p hp=>by
  simp only [List.mem_cons,List.not_mem_nil,or_false] at hp
  rcases hp with rfl | rfl | rfl
  ·exact ⟨h1.lt,fun j v hv=>by rw [Nat.zero_add];exact h1.cell hv⟩
  ·exact ⟨h2.lt,fun j v hv=>by rw [Nat.zero_add];exact h2.cell hv⟩
  ·exact ⟨h3.lt,fun j v hv=>by rw [Nat.zero_add];exact h3.cell hv⟩,
  ⟨rfl,rfl,rfl,Nat.le_refl _,fun _ _=>rfl⟩,Nat.le_refl _⟩
theorem _root_.Go.Proofs.Ytcdclihinmdgiaa.sf.Hld.trd {base top a:Nat} {w W:World} {xs:List Value} {p q:Nat × List Value} {l:List (Nat × List Value)} (h:Hld base top w (p :: q :: (a,xs) :: l) W):W.rangeAt a 0 xs:=(h.at_ (a,xs) (by simp)).2
theorem kr {P:Program} {ops:Array Oper} {o:Oper} {a:Act} {w:World} {K:Act->World->Prop} {Q:Exit->Act->World->Prop} {E:Prop} (hgd:o.guard = none) (t:TypeId) (parts:Array (Nat × Operand)) (ho:o.op = .build t parts)
  (l:List (Nat × Value)) (hl:(parts.toList.map fun p=>(p.1,a.eval p.2)) = l) (cells:Array Value) (hb:P.built t l = some cells)
  (h:K (a.put o.dst (.agg cells)) w):if Region.wanted o (yielded ops a.tmps) = true then Oper.wp P o a w K Q else E:=by
 have hw:Region.wanted o (yielded ops a.tmps) = true:=by simp [Region.wanted,hgd]
 have hb':P.built t (parts.map fun (i,x)=>(i,a.eval x)).toList = some cells:=by
  rw [Array.toList_map]
  subst hl
  exact hb
 rw [if_pos hw]
 refine wp_build t parts ho (by rw [hb'];rfl) ?_
 rw [hb']
 exact h
theorem _root_.Go.Proofs.Ytcdclihinmdgiaa.sf.Hld.other {base top:Nat} {w W:World} {bs:List (Nat × List Value)} (h:Hld base top w bs W) {g:Nat} (hg:base<=g) (hne:∀ p ∈ bs,p.1 ≠ g) (cs:Array Value):Hld base top w bs (W.setRow g cs) :=
 ⟨fun p hp=>⟨(h.at_ p hp).1,fun j v hv=>by
  rw [World.cell?_of_block (w:=W) (a:=⟨p.1,0 + j,none⟩) (setRow_other W g p.1 cs (hne p hp))]
  exact (h.at_ p hp).2 j v hv⟩,below_setRow h.below hg _,by simpa using h.size⟩
set_option maxHeartbeats 4000000 in
theorem qf3 (p q:List Int) (n:Nat) (w:World) (hp:p.length = 24) (hq:q.length = 24) (hn:n<=24) :
  Calls sqp.prog 17 #[.agg (V (gl p q n)).toArray] w fun e w'=>∃ g,e = .returned g/\Svl w' w.heap.size w'.heap.size g (p.take n) (q.take n)/\Below w.heap.size w w':=by
 go_enter sqp.func17,sqp.ntmps17
 go_wp2_with fail
 generalize hw1:(w.alloc (.cells (V (gl p q n)).toArray 43)).alloc (.cells #[.slice none 0 0,.slice none 0 0] 32) = w1
 have A0:Hid (Arr w1 w.heap.size (V (gl p q n)) 43):=Lib.hid (by rw [<-hw1];exact (Arr.new w _ _ rfl).alloc _)
 have A1:Hid (Arr w1 (w.heap.size + 1) [.slice none 0 0,.slice none 0 0] 32):=Lib.hid (by rw [<-hw1];exact Arr.new _ _ _ (by simp))
 have B1:Hid (Below w.heap.size w w1):=Lib.hid (by rw [<-hw1];exact ((Below.refl _ _).alloc (Nat.le_refl _) _).alloc (by simp) _)
 have s1:w1.heap.size = w.heap.size + 2:=by rw [<-hw1];simp
 clear hw1
 refine wp_region_held_drew (S:=Hld w.heap.size w1.heap.size w1 [(w.heap.size,V (gl p q n))]) (by kernel_rfl) ((Hld.qa6 A0.out).lower (by omega)) (fun hHeld=>?_)
 have b1:Below w1.heap.size w1 w1.drew:=⟨rfl,rfl,rfl,Nat.le_refl _,fun _ _=>rfl⟩
 generalize w1.drew = w2 at *
 have s2:=b1.size
 replace A1:=Lib.hid (A1.out.keep b1 A1.out.lt)
 replace B1:=Lib.hid (B1.out.trans (b1.mono B1.out.size))
 clear b1 A0
 refine wpAnyH_take (i:=0) (v:=.pointer (some ⟨w.heap.size,0,none⟩)) rfl (by kernel_rfl) (by kernel_rfl) (by kernel_rfl) (fun _ _ _ h=>h) (Or.inl ⟨by rfl,fun w hSw=>by go_simp⟩) hHeld ?_
 refine wpAnyH_take (i:=2) (v:=.pointer (some ⟨w.heap.size,48,none⟩)) rfl (by kernel_rfl) (by kernel_rfl) (by kernel_rfl) (fun _ _ _ h=>h) (Or.inl ⟨by rfl,fun w hSw=>by go_simp⟩) hHeld ?_
 refine wpAnyH_take (i:=5) (v:=.pointer (some ⟨w.heap.size,24,none⟩)) rfl (by kernel_rfl) (by kernel_rfl) (by kernel_rfl) (fun _ _ _ h=>h) (Or.inl ⟨by rfl,fun w hSw=>by go_simp⟩) hHeld ?_
 refine wpAnyH_take (i:=7) (v:=.pointer (some ⟨w.heap.size,48,none⟩)) rfl (by kernel_rfl) (by kernel_rfl) (by kernel_rfl) (fun _ _ _ h=>h) (Or.inl ⟨by rfl,fun w hSw=>by go_simp⟩) hHeld ?_
 refine wpAnyH_take (i:=1) (v:=.agg (V p).toArray) rfl (by kernel_rfl) (by kernel_rfl) (by kernel_rfl) (fun _ _ _ h=>h) (yieldsIf_load_mid (by rfl) _ _ rfl w.heap.size 0 rfl (V p) _ (fun w h=>qae hp h.fst) sqp.underlying41 rfl (qii hp)) hHeld ?_
 refine wpAnyH_take (i:=6) (v:=.agg (V q).toArray) rfl (by kernel_rfl) (by kernel_rfl) (by kernel_rfl) (fun _ _ _ h=>h) (yieldsIf_load_mid (by rfl) _ _ rfl w.heap.size 24 rfl (V q) _ (fun w h=>qj4 hp hq h.fst) sqp.underlying41 rfl (qii hq)) hHeld ?_
 refine wpAnyH_take (i:=3) (v:=.int .i64 n) rfl (by kernel_rfl) (by kernel_rfl) (by kernel_rfl) (fun _ _ _ h=>h) (Or.inl ⟨by rfl,fun w hSw=>by have:=qby hp hq hSw.fst;go_simp⟩) hHeld ?_
 refine wpAnyH_take (i:=8) (v:=.int .i64 n) rfl (by kernel_rfl) (by kernel_rfl) (by kernel_rfl) (fun _ _ _ h=>h) (Or.inl ⟨by rfl,fun w hSw=>by have:=qby hp hq hSw.fst;go_simp⟩) hHeld ?_
 refine wpAnyH_ready (rs:=[4]) (by kernel_rfl) (by simp) (AllReadyH.cons rfl (fun K hK=>?_) AllReadyH.nil)
 go_simp
 refine (qhm p n _ hp hn).mono ?_
 rintro e w3 ⟨v1,rfl,o1,b1⟩
 obtain ⟨P1,c1,rfl⟩:=za o1
 have R1:=Lib.hid (Row.yu o1);have C1:=(um o1).2;clear o1
 have s3:=b1.size
 have l1:(p.take n).length = n:=by simp;omega
 have l2:(q.take n).length = n:=by simp;omega
 replace A1:=Lib.hid (A1.out.keep b1 A1.out.lt)
 replace B1:=Lib.hid (B1.out.trans (b1.mono B1.out.size))
 go_wp2_with fail
 have hHeld2:=hHeld.later b1 (by omega);clear b1 hHeld
 refine hK.out _ _ hHeld2 (fun hHeld=>?_)
 clear hK K hHeld2
 refine wpAnyH_ready (rs:=[9]) (by kernel_rfl) (by simp) (AllReadyH.cons rfl (fun K hK=>?_) AllReadyH.nil)
 go_simp
 refine (qhm q n _ hq hn).mono ?_
 rintro e w4 ⟨v2,rfl,o2,b1⟩
 obtain ⟨P2,c2,rfl⟩:=za o2
 have R2:=Lib.hid (Row.yu o2);have C2:=(um o2).2;clear o2
 have s4:=b1.size
 replace A1:=Lib.hid (A1.out.keep b1 A1.out.lt)
 replace R1:=Lib.hid (R1.out.keep b1 R1.out.2.1)
 replace B1:=Lib.hid (B1.out.trans (b1.mono B1.out.size))
 go_wp2_with fail
 have hHeld2:=hHeld.later b1 (by omega);clear b1 hHeld
 refine hK.out _ _ hHeld2 (fun hHeld=>?_)
 clear hK K hHeld2
 refine wpAnyH_ready (rs:=[10]) (by kernel_rfl) (by simp) (AllReadyH.cons rfl (fun K hK=>?_) AllReadyH.nil)
 go_simp
 refine hK.out _ _ hHeld (fun hHeld2=>?_)
 clear hK K hHeld2
 refine wpAnyH_ready (rs:=[11]) (by kernel_rfl) (by simp) (AllReadyH.cons rfl (fun K hK=>?_) AllReadyH.nil)
 rw [l1] at R1 C1;rw [l2] at R2 C2
 refine ql rfl 32 _ _ rfl (w.heap.size + 1) #[.slice P1 n c1,.slice P2 n c2] rfl (by simp [go_sem]) 32 #[.slice none 0 0,.slice none 0 0] A1.out yj rfl (by simp [Value.oneCell']) ?_
 refine hK.out _ _ (hHeld.other (by omega) (by simp) _) (fun hHeld2=>?_)
 clear hK K hHeld2
 refine wpAnyH_done (by kernel_rfl) ?_ _
 go_wp2_with fail
 refine bodyPost_ret (v:=.agg #[.slice P1 n c1,.slice P2 n c2]) (results_cell_row rfl _ _ (w.heap.size + 1) 32 #[.slice P1 n c1,.slice P2 n c2] (0,0) _ rfl A1.out.row sqp.underlying32 rfl yj) rfl ⟨_,rfl,?_,below_setRow B1.out (by omega) _⟩
 have oo:Out w.heap.size w2.heap.size w4 (w4.setRow (w.heap.size + 1) #[.slice P1 n c1,.slice P2 n c2]):=(Out.refl _ _ _).qvr (by omega) (by omega) _
 exact ⟨P1,n,c1,P2,n,c2,w2.heap.size,w3.heap.size,w3.heap.size,w4.heap.size,rfl,R1.out.out oo (.inr (by omega)),R2.out.out oo (.inr (by omega)),C1,C2,by omega,by have:=oo.size;omega,by omega,by have:=oo.size;omega,.inl (Nat.le_refl _),Nat.le_refl _⟩
end Go.Proofs.Ytcdclihinmdgiaa.gl

namespace Go.Proofs.Ytcdclihinmdgiaa.gl
open Go.ChangeShapes Go.WideShapes Go.ChangeAt Go.RowKit
open mem ints arr pm permOk permOf inv fns sf
set_option linter.unusedVariables false
set_option maxRecDepth 100000
def qch (p ns:List Int):List Int:=qbh (qbh (x9 24 ns 24) p) ns
theorem qah (p ns:List Int):(qch p ns).length = 24:=jy _
theorem qxb {xs:List Int} (h:Ok xs):Ok (ext xs):=by
 have hl:=h.len
 refine ⟨by rw [qc];omega,fun i hi=>h.sq.lo i (by rwa [qc] at hi),fun i hi=>by rw [qc] at *;exact h.sq.hi i hi,fun i j hi hj e=>?_⟩
 rw [qc] at hi hj
 rw [j5 hi,j5 hj] at e
 split at e <;> split at e
 ·exact h.inj i j (by assumption) (by assumption) e
 ·have:=h.hi i (by assumption);omega
 ·have:=h.hi j (by assumption);omega
 ·omega
theorem qj3 {n:Nat} {xs ys:List Int} (h:Ok xs) (h':Ok ys) (lx:xs.length = n) (ly:ys.length = n):qch (ext xs) (ext ys) = ext (dz n xs ys n):=by
 have hn:n<=24:=by have:=h.len;omega
 refine qao 24 (qah _ _) (qc _) fun i hi=>?_
 rw [j5 hi,xk]
 by_cases hin:i < n
 ·rw [if_pos hin]
  have e:=qvf h h' (by omega)
  rw [lx] at e
  rw [<-e]
  unfold qch
  simp [List.getD,hin]
 ·rw [if_neg hin]
  have o:=qxb h'
  have ey:(ext ys).getD i 0 = (i:Int):=by rw [j5 hi,if_neg (by omega)]
  have ex:(ext xs).getD i 0 = (i:Int):=by rw [j5 hi,if_neg (by omega)]
  have a:=qki o (k:=i) (by rw [qc];exact hi)
  rw [ey,qc,Int.toNat_natCast] at a
  unfold qch qbh
  rw [qdm _ hi,qdm _ hi,a,Int.toNat_natCast,ex,Int.toNat_natCast,ey]
set_option maxHeartbeats 8000000 in
theorem qdp (p q ns:List Int) (n:Nat) (w:World) (hp:Sq p) (hq:Sq q) (hn:Sq ns) :
  Calls sqp.prog 71 #[.agg (V (gl p q n)).toArray,.agg (V ns).toArray] w fun e w'=>e = .returned (.agg (V (gl (qch p ns) (qch q ns) n)).toArray)/\Below w.heap.size w w':=by
 have HP:=Lib.hid hp;have HQ:=Lib.hid hq;have HN:=Lib.hid hn;clear hp hq hn
 go_enter sqp.func71,sqp.ntmps71
 have A3':Hid (Arr (((w.alloc (.cells (V (gl p q n)).toArray 43)).alloc (.cells (V ns).toArray 41)).alloc (.cells #[.int .i64 0,.int .i64 0,.int .i64 0,.int .i64 0,.int .i64 0,.int .i64 0,.int .i64 0,.int .i64 0,.int .i64 0,.int .i64 0,.int .i64 0,.int .i64 0,.int .i64 0,.int .i64 0,.int .i64 0,.int .i64 0,.int .i64 0,.int .i64 0,.int .i64 0,.int .i64 0,.int .i64 0,.int .i64 0,.int .i64 0,.int .i64 0,.int .i64 0,.int .i64 0,.int .i64 0,.int .i64 0,.int .i64 0,.int .i64 0,.int .i64 0,.int .i64 0,.int .i64 0,.int .i64 0,.int .i64 0,.int .i64 0,.int .i64 0,.int .i64 0,.int .i64 0,.int .i64 0,.int .i64 0,.int .i64 0,.int .i64 0,.int .i64 0,.int .i64 0,.int .i64 0,.int .i64 0,.int .i64 0,.int .i64 0] 43)) (w.heap.size + 1) (V ns) 41):=Lib.hid ((Arr.new _ (V ns) _ (by simp)).alloc _)
 go_wp2_with (refine wpList_load_row rfl 41 (.tmp 3) rfl (w.heap.size + 1) rfl 41 (V ns).toArray (0,0) _ A3'.out sqp.underlying41 rfl (qo HN.out.len) ?_)
 generalize hw1:((w.alloc (.cells (V (gl p q n)).toArray 43)).alloc (.cells (V ns).toArray 41)).alloc (.cells #[.int .i64 0,.int .i64 0,.int .i64 0,.int .i64 0,.int .i64 0,.int .i64 0,.int .i64 0,.int .i64 0,.int .i64 0,.int .i64 0,.int .i64 0,.int .i64 0,.int .i64 0,.int .i64 0,.int .i64 0,.int .i64 0,.int .i64 0,.int .i64 0,.int .i64 0,.int .i64 0,.int .i64 0,.int .i64 0,.int .i64 0,.int .i64 0,.int .i64 0,.int .i64 0,.int .i64 0,.int .i64 0,.int .i64 0,.int .i64 0,.int .i64 0,.int .i64 0,.int .i64 0,.int .i64 0,.int .i64 0,.int .i64 0,.int .i64 0,.int .i64 0,.int .i64 0,.int .i64 0,.int .i64 0,.int .i64 0,.int .i64 0,.int .i64 0,.int .i64 0,.int .i64 0,.int .i64 0,.int .i64 0,.int .i64 0] 43) = w1
 have A2:Hid (Arr w1 w.heap.size (V (gl p q n)) 43):=Lib.hid (by rw [<-hw1];exact ((Arr.new w _ _ rfl).alloc _).alloc _)
 have A3:Hid (Arr w1 (w.heap.size + 1) (V ns) 41):=Lib.hid (by rw [<-hw1];exact A3'.out)
 have A4:Hid (Arr w1 (w.heap.size + 2) (V qp) 43):=Lib.hid (by rw [<-hw1];exact Arr.new _ (V qp) _ (by simp))
 have B1:Hid (Below w.heap.size w w1):=Lib.hid (by rw [<-hw1];exact (((Below.refl _ _).alloc (Nat.le_refl _) _).alloc (by simp) _).alloc (by simp <;> omega) _)
 have s1:w1.heap.size = w.heap.size + 3:=by rw [<-hw1];simp
 clear hw1 A3'
 refine (qbz ns _ HN.out).mono ?_
 rintro e w2 ⟨rfl,b1⟩
 have s2:=b1.size
 replace A2:=Lib.hid (A2.out.keep b1 A2.out.lt)
 replace A3:=Lib.hid (A3.out.keep b1 A3.out.lt)
 replace A4:=Lib.hid (A4.out.keep b1 A4.out.lt)
 replace B1:=Lib.hid (B1.out.trans (b1.mono B1.out.size))
 clear b1
 go_wp2_with (refine wpList_store_row rfl 41 (.tmp 5) (.tmp 7) rfl w2.heap.size (V (x9 24 ns 24)).toArray rfl rfl 41 (V zeros).toArray (Arr.new w2 (V zeros) _ rfl) (qo (uf _ _ _)) (by simp [q8,uf,zeros]) (zy _) ?_;generalize hw3:(w2.alloc (.cells #[.int .i64 0,.int .i64 0,.int .i64 0,.int .i64 0,.int .i64 0,.int .i64 0,.int .i64 0,.int .i64 0,.int .i64 0,.int .i64 0,.int .i64 0,.int .i64 0,.int .i64 0,.int .i64 0,.int .i64 0,.int .i64 0,.int .i64 0,.int .i64 0,.int .i64 0,.int .i64 0,.int .i64 0,.int .i64 0,.int .i64 0,.int .i64 0] 41)).setRow w2.heap.size (V (x9 24 ns 24)).toArray = w3;have A5:Hid (Arr w3 w2.heap.size (V (x9 24 ns 24)) 41):=Lib.hid (by rw [<-hw3];exact (Arr.new w2 (V zeros) _ rfl).row);have b1:Below w2.heap.size w2 w3:=(by rw [<-hw3];exact arr.below_setRow ((Below.refl _ _).alloc (Nat.le_refl _) _) (Nat.le_refl _) _);have s3:w3.heap.size = w2.heap.size + 1:=(by rw [<-hw3];simp);replace A2:=Lib.hid (A2.out.keep b1 A2.out.lt);replace A3:=Lib.hid (A3.out.keep b1 A3.out.lt);replace A4:=Lib.hid (A4.out.keep b1 A4.out.lt);replace B1:=Lib.hid (B1.out.trans (b1.mono B1.out.size));clear hw3 b1)
 refine wp_region_held_drew (S:=Hld w.heap.size w3.heap.size w3 [(w.heap.size,V (gl p q n)),(w.heap.size + 1,V ns),(w2.heap.size,V (x9 24 ns 24))]) (by kernel_rfl) ((Hld.qxc A2.out A3.out A5.out).lower (by omega)) (fun hHeld=>?_)
 have b1:Below w3.heap.size w3 w3.drew:=⟨rfl,rfl,rfl,Nat.le_refl _,fun _ _=>rfl⟩
 generalize w3.drew = w4 at *
 have s4:=b1.size
 replace A4:=Lib.hid (A4.out.keep b1 A4.out.lt)
 replace B1:=Lib.hid (B1.out.trans (b1.mono B1.out.size))
 clear b1 A2 A3 A5
 refine wpAnyH_take (i:=1) (v:=.pointer (some ⟨w.heap.size,0,none⟩)) rfl (by kernel_rfl) (by kernel_rfl) (by kernel_rfl) (fun _ _ _ h=>h) (Or.inl ⟨by rfl,fun w hSw=>by go_simp⟩) hHeld ?_
 refine wpAnyH_take (i:=7) (v:=.pointer (some ⟨w.heap.size,24,none⟩)) rfl (by kernel_rfl) (by kernel_rfl) (by kernel_rfl) (fun _ _ _ h=>h) (Or.inl ⟨by rfl,fun w hSw=>by go_simp⟩) hHeld ?_
 refine wpAnyH_take (i:=12) (v:=.pointer (some ⟨w.heap.size,48,none⟩)) rfl (by kernel_rfl) (by kernel_rfl) (by kernel_rfl) (fun _ _ _ h=>h) (Or.inl ⟨by rfl,fun w hSw=>by go_simp⟩) hHeld ?_
 refine wpAnyH_take (i:=0) (v:=.agg (V (x9 24 ns 24)).toArray) rfl (by kernel_rfl) (by kernel_rfl) (by kernel_rfl) (fun _ _ _ h=>h) (yieldsIf_load_mid (by rfl) _ _ rfl (w2.heap.size) 0 rfl (V (x9 24 ns 24)) _ (fun w h=>h.trd) sqp.underlying41 rfl (qii (uf _ _ _))) hHeld ?_
 refine wpAnyH_take (i:=6) (v:=.agg (V (x9 24 ns 24)).toArray) rfl (by kernel_rfl) (by kernel_rfl) (by kernel_rfl) (fun _ _ _ h=>h) (yieldsIf_load_mid (by rfl) _ _ rfl (w2.heap.size) 0 rfl (V (x9 24 ns 24)) _ (fun w h=>h.trd) sqp.underlying41 rfl (qii (uf _ _ _))) hHeld ?_
 refine wpAnyH_take (i:=2) (v:=.agg (V p).toArray) rfl (by kernel_rfl) (by kernel_rfl) (by kernel_rfl) (fun _ _ _ h=>h) (yieldsIf_load_mid (by rfl) _ _ rfl (w.heap.size) 0 rfl (V p) _ (fun w h=>qae HP.out.len h.fst) sqp.underlying41 rfl (qii HP.out.len)) hHeld ?_
 refine wpAnyH_take (i:=8) (v:=.agg (V q).toArray) rfl (by kernel_rfl) (by kernel_rfl) (by kernel_rfl) (fun _ _ _ h=>h) (yieldsIf_load_mid (by rfl) _ _ rfl (w.heap.size) 24 rfl (V q) _ (fun w h=>qj4 HP.out.len HQ.out.len h.fst) sqp.underlying41 rfl (qii HQ.out.len)) hHeld ?_
 refine wpAnyH_take (i:=4) (v:=.agg (V ns).toArray) rfl (by kernel_rfl) (by kernel_rfl) (by kernel_rfl) (fun _ _ _ h=>h) (yieldsIf_load_mid (by rfl) _ _ rfl (w.heap.size + 1) 0 rfl (V ns) _ (fun w h=>h.snd) sqp.underlying41 rfl (qii HN.out.len)) hHeld ?_
 refine wpAnyH_take (i:=10) (v:=.agg (V ns).toArray) rfl (by kernel_rfl) (by kernel_rfl) (by kernel_rfl) (fun _ _ _ h=>h) (yieldsIf_load_mid (by rfl) _ _ rfl (w.heap.size + 1) 0 rfl (V ns) _ (fun w h=>h.snd) sqp.underlying41 rfl (qii HN.out.len)) hHeld ?_
 refine wpAnyH_take (i:=13) (v:=.int .i64 n) rfl (by kernel_rfl) (by kernel_rfl) (by kernel_rfl) (fun _ _ _ h=>h) (Or.inl ⟨by rfl,fun w hSw=>by have:=qby HP.out.len HQ.out.len hSw.fst;go_simp⟩) hHeld ?_
 refine wpAnyH_ready (rs:=[3]) (by kernel_rfl) (by simp) (AllReadyH.cons rfl (fun K hK=>?_) AllReadyH.nil)
 go_simp
 refine (inv.qcx (x9 24 ns 24) p _ (qn4 _) HP.out).mono ?_
 rintro e w' ⟨rfl,b1⟩
 replace A4:=Lib.hid (A4.out.keep b1 A4.out.lt)
 replace B1:=Lib.hid (B1.out.trans (b1.mono B1.out.size))
 go_wp2_with fail
 have hHeld2:=hHeld.later b1 (by omega);clear b1 hHeld
 refine hK.out _ _ hHeld2 (fun hHeld=>?_)
 clear hK K hHeld2
 refine wpAnyH_ready (rs:=[5]) (by kernel_rfl) (by simp) (AllReadyH.cons rfl (fun K hK=>?_) AllReadyH.nil)
 go_simp
 refine (inv.qcx (qbh (x9 24 ns 24) p) ns _ (qsc (qn4 _) HP.out) HN.out).mono ?_
 rintro e w' ⟨rfl,b1⟩
 replace A4:=Lib.hid (A4.out.keep b1 A4.out.lt)
 replace B1:=Lib.hid (B1.out.trans (b1.mono B1.out.size))
 go_wp2_with fail
 have hHeld2:=hHeld.later b1 (by omega);clear b1 hHeld
 refine hK.out _ _ hHeld2 (fun hHeld=>?_)
 clear hK K hHeld2
 refine wpAnyH_ready (rs:=[9]) (by kernel_rfl) (by simp) (AllReadyH.cons rfl (fun K hK=>?_) AllReadyH.nil)
 go_simp
 refine (inv.qcx (x9 24 ns 24) q _ (qn4 _) HQ.out).mono ?_
 rintro e w' ⟨rfl,b1⟩
 replace A4:=Lib.hid (A4.out.keep b1 A4.out.lt)
 replace B1:=Lib.hid (B1.out.trans (b1.mono B1.out.size))
 go_wp2_with fail
 have hHeld2:=hHeld.later b1 (by omega);clear b1 hHeld
 refine hK.out _ _ hHeld2 (fun hHeld=>?_)
 clear hK K hHeld2
 refine wpAnyH_ready (rs:=[11]) (by kernel_rfl) (by simp) (AllReadyH.cons rfl (fun K hK=>?_) AllReadyH.nil)
 go_simp
 refine (inv.qcx (qbh (x9 24 ns 24) q) ns _ (qsc (qn4 _) HQ.out) HN.out).mono ?_
 rintro e w' ⟨rfl,b1⟩
 replace A4:=Lib.hid (A4.out.keep b1 A4.out.lt)
 replace B1:=Lib.hid (B1.out.trans (b1.mono B1.out.size))
 go_wp2_with fail
 have hHeld2:=hHeld.later b1 (by omega);clear b1 hHeld
 refine hK.out _ _ hHeld2 (fun hHeld=>?_)
 clear hK K hHeld2
 refine wpAnyH_ready (rs:=[14]) (by kernel_rfl) (by simp) (AllReadyH.cons rfl (fun K hK=>?_) AllReadyH.nil)
 refine kr rfl 43 _ rfl [(0,.agg (V (qch p ns)).toArray),(1,.agg (V (qch q ns)).toArray),(2,.int .i64 n)] rfl (V (gl (qch p ns) (qch q ns) n)).toArray (qbw (qah _ _) (qah _ _) n) ?_
 refine hK.out _ _ hHeld (fun hHeld2=>?_)
 clear hK K hHeld2
 refine wpAnyH_ready (rs:=[15]) (by kernel_rfl) (by simp) (AllReadyH.cons rfl (fun K hK=>?_) AllReadyH.nil)
 refine ql rfl 43 _ _ rfl (w.heap.size + 2) (V (gl (qch p ns) (qch q ns) n)).toArray rfl rfl 43 (V qp).toArray A4.out (zu (jg (qah _ _) (qah _ _) n)) (by simp [q8,jg,qah,qp]) (zy _) ?_
 refine hK.out _ _ (hHeld.other (by omega) (by simp;omega) _) (fun hHeld2=>?_)
 clear hK K hHeld2
 refine wpAnyH_done (by kernel_rfl) ?_ _
 go_wp2_with fail
 exact bodyPost_ret (v:=.agg (V (gl (qch p ns) (qch q ns) n)).toArray) (results_cell_row rfl _ _ (w.heap.size + 2) 43 (V (gl (qch p ns) (qch q ns) n)).toArray (0,0) _ rfl A4.out.row sqp.underlying43 rfl (zu (jg (qah _ _) (qah _ _) n))) rfl ⟨rfl,below_setRow B1.out (by omega) _⟩
end Go.Proofs.Ytcdclihinmdgiaa.gl
