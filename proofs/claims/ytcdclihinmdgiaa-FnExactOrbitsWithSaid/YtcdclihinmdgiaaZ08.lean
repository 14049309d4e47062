import Derived.Test.YtcdclihinmdgiaaZ04
import Derived.Test.YtcdclihinmdgiaaZ07
import Derived.Test.YtcdclihinmdgiaaZ06
import Derived.RegionTactic
import Derived.BigRegion
import Derived.Test.YtcdclihinmdgiaaZ05
import Derived.Deep.RegionHeld3
namespace Go.Proofs.Ytcdclihinmdgiaa.fns
open Go.ChangeShapes Go.WideShapes Go.ChangeAt Go.RowKit
open mem ints arr pm permOk permOf inv
set_option linter.unusedVariables false
set_option maxRecDepth 100000
theorem gy.drew {w wr:World} {v:Value} {l:List Int} (h:gy w wr v l) (n:Nat):gy w (wr.drewN n) v l:=⟨h.own,below_drewN h.below n⟩
theorem gy.alloc {w wr:World} {v:Value} {l:List Int} (h:gy w wr v l) (o:Obj):gy w (wr.alloc o) v l:=⟨h.own.alloc _,h.below.alloc h.below.size _⟩
theorem gy.form {w wr:World} {v:Value} {l:List Int} (h:gy w wr v l):∃ A c,v = .slice A l.length c:=za h.own
structure Mid (w wr:World) (v:Value) (l:List Int) (T:Nat) (a b:Int):Prop where
 g:gy w wr v l
 t:Arr wr T (V [a,b]) 3
 ne:v.ownBlock ≠ some T
 T0:w.heap.size<=T
theorem Mid.next {w wr w':World} {v v':Value} {l:List Int} {T:Nat} {a b z:Int} {n:Nat} (h:Mid w wr v l T a b) (ho:w'.ownsRow w.heap.size 3 1 v' (n + 1) (V l ++ [.int .i64 z])) (hn:n = l.length) (hg:wr.grownBy w' v.ownBlock)
  (hb:v'.ownBlock = v.ownBlock\/∃ k,v'.ownBlock = some k/\wr.heap.size + 1<=k):Mid w w' v' (l ++ [z]) T a b:=by
 have hT:=h.t.lt
 refine ⟨h.g.next ho hn hg,(hg.block T hT (fun e=>h.ne e.symm)).trans h.t,?_,h.T0⟩
 rcases hb with e | ⟨k,e,hk⟩
 ·rw [e];exact h.ne
 ·rw [e];intro e2;injection e2 with e2;omega
def mid (l:List Int) (a b:Int):Nat->List Int
 | 0=>l
 | 1=>add1 l a
 | _=>add1 (add1 l a) b
theorem mid_step (l:List Int) (a b:Int) {j:Nat} (hj:j < 2) {x:Int} (hx:[a,b].getD j 0 = x):mid l a b (j + 1) = add1 (mid l a b j) x:=by
 match j,hj with
 | 0,_=>simp at hx;subst hx;rfl
 | 1,_=>simp at hx;subst hx;rfl
theorem qsm {n:Nat} {l:List Int} (h:In n l) {a b:Int} (a0:0<=a) (a1:a < n) (b0:0<=b) (b1:b < n) (j:Nat):In n (mid l a b j):=by
 match j with
 | 0=>exact h
 | 1=>exact h.add a0 a1
 | j + 2=>exact (h.add a0 a1).add b0 b1
set_option maxHeartbeats 2000000 in
theorem qkp (A:Option Addr) (n c:Nat) (B:Option Addr) (m d:Nat) (xs ys:List Int) (f:Int) (h1 h2:Nat) (w:World) (hx:Rd w h1 A n (V xs)) (hy:Rd w h2 B m (V ys)) (ok:Ok xs) (oky:Ok ys) (hnm:n = m) (f0:0<=f) (f1:f < n) :
  Calls sqp.prog 65 #[.slice A n c,.slice B m d,.int .i64 f] w (Gives (reach xs ys f) w):=by
 subst hnm
 obtain ⟨i0,hi0,hz0,hz1,hz2⟩:=info_parts qeo
 have lx:xs.length = n:=by simpa [V] using hx.1
 have ly:ys.length = n:=by simpa [V] using hy.1
 have hn:n<=24:=by have:=ok.len;omega
 have MX:Hid (Maps n xs):=Lib.hid (by have:=ok.maps;rw [lx] at this;exact this)
 have MY:Hid (Maps n ys):=Lib.hid (by have:=oky.maps;rw [ly] at this;exact this)
 have LX:=Lib.hid lx;have LY:=Lib.hid ly;clear lx ly ok oky
 have HX:=Lib.hid hx;have HY:=Lib.hid hy;clear hx hy
 go_enter sqp.func65,sqp.ntmps65
 go_wp2
 go_loopw [7,8] (fun v i wr=>∃ k:Nat,k<=n/\i = .int .i64 k/\gy w wr v (rs xs ys f k)/\k<=(rs xs ys f k).length) (fun _ i _=>n - (intOf i).toNat)
 case atStart=>exact ⟨0,Nat.zero_le _,rfl,gy.one w f,Nat.zero_le _⟩
 case round =>
  obtain ⟨k,hk,rfl,hm,hle⟩:=hrel
  obtain ⟨wo,rfl⟩:∃ wo:World,wo = wr:=⟨_,rfl⟩
  have IN:=Lib.hid (qgc MX.out MY.out f0 f1 k)
  have hln:(rs xs ys f k).length<=n:=IN.out.len
  obtain ⟨C,cc,rfl⟩:=hm.form
  have HR:=Lib.hid hm;clear hm
  by_cases hlt:k < (rs xs ys f k).length
  ·obtain ⟨z,hz,hzs,hzd⟩:=IN.out.at_ hlt
   obtain ⟨g,off,u,rfl,hgl,hxu,hcx⟩:=HX.out.at_ hz
   obtain ⟨a,hxs,rfl⟩:=qhb hxu
   obtain ⟨g',off',u',rfl,hgl',hyu,hcy⟩:=HY.out.at_ hz
   obtain ⟨b,hyt,rfl⟩:=qhb hyu
   have RO:=Row.yu HR.out.own
   obtain ⟨go,oo,uo,rfl,hgo,hgo2,huo,hco,hfo⟩:=RO.at_ hlt
   rw [qpc hzs] at huo
   obtain rfl:=Option.some.inj huo
   have hgw:g < w.heap.size:=Nat.lt_of_lt_of_le hgl HX.out.2.1
   have hgw':g' < w.heap.size:=Nat.lt_of_lt_of_le hgl' HY.out.2.1
   rw [<-HR.out.below.cell (p:=⟨g,off + z,none⟩) hgw] at hcx
   rw [<-HR.out.below.cell (p:=⟨g',off' + z,none⟩) hgw'] at hcy
   have ea:=permOk.qes hxs;have eb:=permOk.qes hyt
   have a01:=MX.out z hz;have b01:=MY.out z hz
   rw [ea] at a01;rw [eb] at b01
   obtain ⟨a0,a1⟩:=a01;obtain ⟨b0,b1⟩:=b01
   have STEP:Hid (rs xs ys f (k + 1) = mid (rs xs ys f k) a b 2):=Lib.hid (by rw [qix xs ys f hlt hzd,ea,eb];rfl)
   have LE:Hid (k + 1<=(rs xs ys f (k + 1)).length):=Lib.hid (qzq xs ys f hlt)
   have MI:Hid (∀ j,In n (mid (rs xs ys f k) a b j)):=Lib.hid (qsm IN.out a0 a1 b0 b1)
   clear hzs hzd ea eb hxs hyt hxu hyu huo RO hfo
   go_wp2
   go_region
   go_wp2
   have hso:=HR.out.below.size
   go_loopw [7,35] (fun v i wr=>∃ j:Nat,j<=2/\i = .int .i64 j/\Mid w wr v (mid (rs xs ys f k) a b j) wo.heap.size a b) (fun _ i _=>2 - (intOf i).toNat)
   case atStart=>exact ⟨0,Nat.zero_le _,rfl,(HR.out.alloc _).drew 1,(Arr.new _ (V [a,b]) _ rfl).drew 1,by intro e;simp [Value.ownBlock] at e;omega,hso⟩
   case round =>
    obtain ⟨j,hj,rfl,hmid⟩:=hrel
    have hln2:(mid (rs xs ys f k) a b j).length<=n:=(MI.out j).len
    obtain ⟨C2,cc2,rfl⟩:=hmid.g.form
    have HMI:=Lib.hid hmid;clear hmid
    by_cases hj2:j < 2
    ·have hcj:=HMI.out.t.cell (bg (l:=[a,b]) (k:=j) (by simp;exact hj2))
     generalize hq:[a,b].getD j 0 = x at hcj
     have MS:=Lib.hid (mid_step (rs xs ys f k) a b hj2 hq)
     clear hq
     have hsz:=HMI.out.g.below.size
     by_cases hh:hasB (mid (rs xs ys f k) a b j) x = true
     ·have HH:=Lib.hid hh;have EQ:Hid (mid (rs xs ys f k) a b (j + 1) = mid (rs xs ys f k) a b j):=Lib.hid (by rw [MS.out];unfold add1;rw [if_pos (by simpa [hasB] using hh)])
      clear hh
      go_wp2_with fail
      refine (qer _ _ _ (mid (rs xs ys f k) a b j) _ x _ (Row.yu HMI.out.g.own).rd (by omega)).mono ?_
      rintro e w' ⟨rfl,rfl⟩
      rw [HH.out]
      go_wp2
      go_roundw
      case rel=>exact ⟨j + 1,by omega,by go_num,by rw [EQ.out];exact HMI.out⟩
      case measure=>simp [intOf];omega
     ·have hh':hasB (mid (rs xs ys f k) a b j) x = false:=by simpa using hh
      have HH:=Lib.hid hh';have EQ:Hid (mid (rs xs ys f k) a b (j + 1) = mid (rs xs ys f k) a b j ++ [x]):=Lib.hid (by rw [MS.out];unfold add1;rw [if_neg (by simpa [hasB] using hh')])
      clear hh hh'
      go_wp2_with fail
      refine (qer _ _ _ (mid (rs xs ys f k) a b j) _ x _ (Row.yu HMI.out.g.own).rd (by omega)).mono ?_
      rintro e w' ⟨rfl,rfl⟩
      rw [HH.out]
      go_wp2_with (at_builtin;refine qa5 wr _ _ rfl _ _ 30 rfl w.heap.size 3 i0 _ 8 1 sqp.underlying30 hi0 hz0 hz1 rfl hz2 rfl _ _ _ rfl HMI.out.g.own rfl rfl ?c4 (by decide) hsz ?_)
      case c4=>omega
      intro v' w' ho hg hb
      have HN:Hid (Mid w w' v' (mid (rs xs ys f k) a b (j + 1)) wo.heap.size a b):=Lib.hid (by rw [EQ.out];exact HMI.out.next ho rfl hg hb)
      clear ho hg hb HMI hcj
      go_wp2
      go_roundw
      case rel=>exact ⟨j + 1,by omega,by go_num,HN.out⟩
      case measure=>simp [intOf];omega
    ·obtain rfl:j = 2:=by omega
     have HN:Hid (gy w wr (.slice C2 (mid (rs xs ys f k) a b 2).length cc2) (rs xs ys f (k + 1))):=Lib.hid (by rw [STEP.out];exact HMI.out.g)
     go_wp2
     go_roundw
     case rel=>exact ⟨k + 1,by omega,by go_num,HN.out,LE.out⟩
     case measure=>simp [intOf];omega
  ·have e:k = (rs xs ys f k).length:=by omega
   have R:Hid (rs xs ys f k = reach xs ys f):=Lib.hid (qiy LX.out hk (by omega))
   have hd:decide (k < (rs xs ys f k).length) = false:=by simp;omega
   clear e
   go_wp2
   go_ret
   have:=HR.out
   rw [R.out] at this ⊢
   exact this.gives
end Go.Proofs.Ytcdclihinmdgiaa.fns

namespace Go.Proofs.Ytcdclihinmdgiaa.fns
open Go.ChangeShapes Go.WideShapes Go.ChangeAt Go.RowKit
open mem ints arr pm permOk permOf inv
set_option linter.unusedVariables false
set_option maxRecDepth 100000
structure Cr (w wr:World) (ps qs:List Int) (v:Value) (l:List Int):Prop where
 own:wr.ownsRow (w.heap.size + 3) 3 1 v l.length (V l)
 p:Arr wr w.heap.size (V ps) 41
 q:Arr wr (w.heap.size + 1) (V qs) 41
 met:Arr wr (w.heap.size + 2) (VB (flagsOf l)) 91
 below:Below w.heap.size w wr
theorem Cr.drew {w wr:World} {ps qs l:List Int} {v:Value} (h:Cr w wr ps qs v l) (n:Nat):Cr w (wr.drewN n) ps qs v l:=⟨h.own,h.p,h.q,h.met,below_drewN h.below n⟩
theorem Cr.ne {w wr:World} {ps qs l:List Int} {v:Value} (h:Cr w wr ps qs v l) {k:Nat} (hk:k < w.heap.size + 3):some k ≠ v.ownBlock:=fun e=>by
 have:=(h.own.lt k e.symm).1;omega
theorem Cr.next {w wr w1 w':World} {ps qs l:List Int} {v v':Value} {z n:Nat} (h:Cr w wr ps qs v l) (hw1:w1 = wr.setCell ⟨w.heap.size + 2,z,none⟩ (.bool true))
  (ho:w'.ownsRow (w.heap.size + 3) 3 1 v' (n + 1) (V l ++ [.int .i64 (z:Int)])) (hn:n = l.length) (hg:w1.grownBy w' v.ownBlock) (hz:¬ (z:Int) ∈ l):Cr w w' ps qs v' (add1 l (z:Int)):=by
 subst hn
 have e:V (add1 l (z:Int)) = V l ++ [.int .i64 (z:Int)]:=by unfold add1;rw [if_neg hz];simp [V]
 have el:(add1 l (z:Int)).length = l.length + 1:=by unfold add1;rw [if_neg hz];simp
 have hp:=h.p.lt;have hq:=h.q.lt;have hm:=h.met.lt
 have s1:w1.heap.size = wr.heap.size:=by rw [hw1];simp [World.setCell]
 refine ⟨by rw [e,el];exact ho,?_,?_,?_,?_⟩
 ·exact (hg.block _ (by omega) (h.ne (by omega))).trans (by rw [hw1];exact h.p.other (by omega) _)
 ·exact (hg.block _ (by omega) (h.ne (by omega))).trans (by rw [hw1];exact h.q.other (by omega) _)
 ·refine (hg.block _ (by omega) (h.ne (by omega))).trans ?_
  have hh:=h.met.qjo z (.bool true)
  rw [qnz,qdt hz,<-hw1] at hh
  exact hh
 ·refine Below.trans (b:=w1) (by rw [hw1];exact h.below.setCell (by simp) _) ?_
  exact (Below.refl _ _).grown hg (by have:=h.below.size;omega) (fun k hk=>by have:=(h.own.lt k hk).1;omega)
theorem qhk (a b:Int) (j:Nat) (hj:j < 2) (x:Int) (hx:[a,b].getD j 0 = x) (w:World) :
  (Instr.index 92 (.agg #[.int .i64 a,.int .i64 b]) (.int .i64 (j:Int))).run sqp.prog w = .ok (.int .i64 x) w:=by
 have hs:(sizeOf 3).run sqp.prog w = .ok 1 w:=by kernel_rfl
 have h2:(V [a,b])[j]? = some (.int .i64 x):=by subst hx;exact bg (by simpa using hj)
 have h3:(#[Value.int .i64 a,Value.int .i64 b]:Array Value) = (V [a,b]).toArray:=rfl
 rw [h3]
 simp [Instr.index,asIntOf,run_underlying sqp.underlying92,hj,hs,part,h2]
theorem qrb {n:Nat} {a b x:Int} {j:Nat} (hj:j < 2) (hx:[a,b].getD j 0 = x) (a0:0<=a) (a1:a < n) (b0:0<=b) (b1:b < n):∃ z:Nat,x = (z:Int)/\z < n:=by
 subst hx
 match j,hj with
 | 0,_=>exact ⟨a.toNat,by simp;omega,by omega⟩
 | 1,_=>exact ⟨b.toNat,by simp;omega,by omega⟩
set_option maxHeartbeats 2000000 in
theorem qjx (ps qs:List Int) (w:World) (hp:Sq ps) (hq:Sq qs) :
  Calls sqp.prog 33 #[.agg (V ps).toArray,.agg (V qs).toArray] w fun e w'=>e = .returned (.int .i64 (reach ps qs 0).length)/\Below w.heap.size w w':=by
 obtain ⟨i0,hi0,hz0,hz1,hz2⟩:=info_parts qeo
 have MX:=Lib.hid (Sq.maps hp);have MY:=Lib.hid (Sq.maps hq)
 have LX:=Lib.hid hp.len;have LY:=Lib.hid hq.len
 clear hp hq
 go_enter sqp.func33,sqp.ntmps33
 go_wp2
 go_loopw [6,7] (fun v i wr=>∃ k:Nat,k<=24/\i = .int .i64 k/\Cr w wr ps qs v (rs ps qs 0 k)/\k<=(rs ps qs 0 k).length) (fun _ i _=>24 - (intOf i).toNat)
 case atStart =>
  refine ⟨0,Nat.zero_le _,rfl,⟨?_,?_,?_,?_,?_⟩,Nat.zero_le _⟩
  ·exact ⟨rfl,.inr ⟨w.heap.size + 3,1,#[.int .i64 0],rfl,Nat.le_refl _,Arr.new _ (V [0]) _ (by simp),Nat.le_refl _,by unfold maxLen;omega,rfl,rfl⟩⟩
  ·exact (((Arr.new w (V ps) _ rfl).alloc _).alloc _).alloc _
  ·exact ((Arr.new _ (V qs) _ (by simp)).alloc _).alloc _
  ·exact (Arr.new _ (VB (flagsOf [0])) _ (by simp)).alloc _
  ·exact ((((Below.refl _ _).alloc (Nat.le_refl _) _).alloc (by simp) _).alloc (by simp;omega) _).alloc (by simp;omega) _
 case round =>
  obtain ⟨k,hk,rfl,hm,hle⟩:=hrel
  obtain ⟨wo,rfl⟩:∃ wo:World,wo = wr:=⟨_,rfl⟩
  have IN:=Lib.hid (qgc MX.out MY.out (f:=0) (by omega) (by omega) k)
  have hln:(rs ps qs 0 k).length<=24:=IN.out.len
  obtain ⟨C,cc,rfl⟩:=za hm.own
  have HR:=Lib.hid hm;clear hm
  by_cases hlt:k < (rs ps qs 0 k).length
  ·obtain ⟨z,hz,hzs,hzd⟩:=IN.out.at_ hlt
   have RO:=Row.yu HR.out.own
   obtain ⟨go,oo,uo,rfl,hgo,hgo2,huo,hco,hfo⟩:=RO.at_ hlt
   rw [qpc hzs] at huo
   obtain rfl:=Option.some.inj huo
   have hcp:=HR.out.p.cell (bg (l:=ps) (k:=z) (by rw [LX.out];exact hz))
   have hcq:=HR.out.q.cell (bg (l:=qs) (k:=z) (by rw [LY.out];exact hz))
   have a01:=MX.out z hz;have b01:=MY.out z hz
   have STEP:Hid (rs ps qs 0 (k + 1) = mid (rs ps qs 0 k) (ps.getD z 0) (qs.getD z 0) 2):=Lib.hid (by rw [qix ps qs 0 hlt hzd];rfl)
   generalize ps.getD z 0 = a at *
   generalize qs.getD z 0 = b at *
   obtain ⟨a0,a1⟩:=a01;obtain ⟨b0,b1⟩:=b01
   have LE:Hid (k + 1<=(rs ps qs 0 (k + 1)).length):=Lib.hid (qzq ps qs 0 hlt)
   have MI:Hid (∀ j,In 24 (mid (rs ps qs 0 k) a b j)):=Lib.hid (qsm IN.out a0 a1 b0 b1)
   clear hzs hzd huo RO hfo
   go_wp2
   go_region
   go_wp2
   go_loopw [6,30] (fun v i wr=>∃ j:Nat,j<=2/\i = .int .i64 j/\Cr w wr ps qs v (mid (rs ps qs 0 k) a b j)) (fun _ i _=>2 - (intOf i).toNat)
   case atStart=>exact ⟨0,Nat.zero_le _,rfl,HR.out.drew 1⟩
   case round =>
    obtain ⟨j,hj,rfl,hmid⟩:=hrel
    have hln2:(mid (rs ps qs 0 k) a b j).length<=24:=(MI.out j).len
    obtain ⟨C2,cc2,rfl⟩:=za hmid.own
    have HMI:=Lib.hid hmid;clear hmid
    by_cases hj2:j < 2
    ·generalize hq:[a,b].getD j 0 = x
     have MS:=Lib.hid (mid_step (rs ps qs 0 k) a b hj2 hq)
     have hix:=qhk a b j hj2 x hq
     obtain ⟨y,rfl,hy⟩:=qrb hj2 hq a0 a1 b0 b1
     clear hq
     have hsz:w.heap.size + 3<=wr.heap.size:=HMI.out.met.lt
     by_cases hh:(y:Int) ∈ mid (rs ps qs 0 k) a b j
     ·have hfl:wr.cell? ⟨w.heap.size + 2,y,none⟩ = some (.bool true):=qat HMI.out.met hy (by simpa using hh)
      have EQ:Hid (mid (rs ps qs 0 k) a b (j + 1) = mid (rs ps qs 0 k) a b j):=Lib.hid (by rw [MS.out];unfold add1;rw [if_pos hh])
      clear hh
      go_wp2
      go_roundw
      case rel=>exact ⟨j + 1,by omega,by go_num,by rw [EQ.out];exact HMI.out⟩
      case measure=>simp [intOf];omega
     ·have hfl:wr.cell? ⟨w.heap.size + 2,y,none⟩ = some (.bool false):=qat HMI.out.met hy (by simpa using hh)
      have hff:=HMI.out.met.frozen y
      have HH:=Lib.hid hh
      have OW:Hid ((wr.setCell ⟨w.heap.size + 2,y,none⟩ (.bool true)).ownsRow (w.heap.size + 3) 3 1 (.slice C2 (mid (rs ps qs 0 k) a b j).length cc2) (mid (rs ps qs 0 k) a b j).length (V (mid (rs ps qs 0 k) a b j))):=Lib.hid (by
       refine HMI.out.own.kept (row:=some (w.heap.size + 2)) ⟨rfl,rfl,rfl,by simp [World.setCell],fun i hi hne=>heap_setCell_other _ _ _ _ (fun e=>hne (by rw [e]))⟩ (.inr (fun e=>HMI.out.ne (k:=w.heap.size + 2) (by omega) e.symm)))
      clear hh
      generalize hw1:wr.setCell ⟨w.heap.size + 2,y,none⟩ (.bool true) = w1 at OW
      have HW1:=Lib.hid hw1
      have hsz1:w.heap.size + 3<=w1.heap.size:=by rw [<-hw1];simpa [World.setCell] using hsz
      go_wp2_with (at_builtin;refine yh w1 _ _ rfl _ _ 30 rfl (w.heap.size + 3) 3 i0 _ 8 sqp.underlying30 hi0 hz0 hz1 hz2 rfl _ _ _ rfl OW.out rfl rfl ?c4 (by decide) hsz1 ?_)
      case c4=>omega
      intro v' w' ho hg
      have HN:Hid (Cr w w' ps qs v' (mid (rs ps qs 0 k) a b (j + 1))):=Lib.hid (by rw [MS.out];exact HMI.out.next HW1.out.symm ho rfl hg HH.out)
      clear ho hg HMI hw1 hfl hff
      go_wp2
      go_roundw
      case rel=>exact ⟨j + 1,by omega,by go_num,HN.out⟩
      case measure=>simp [intOf];omega
    ·obtain rfl:j = 2:=by omega
     have HN:Hid (Cr w wr ps qs (.slice C2 (mid (rs ps qs 0 k) a b 2).length cc2) (rs ps qs 0 (k + 1))):=Lib.hid (by rw [STEP.out];exact HMI.out)
     go_wp2
     go_roundw
     case rel=>exact ⟨k + 1,by omega,by go_num,HN.out,LE.out⟩
     case measure=>simp [intOf];omega
  ·have e:k = (rs ps qs 0 k).length:=by omega
   have R:Hid (rs ps qs 0 k = reach ps qs 0):=Lib.hid (qiy LX.out hk (by omega))
   have hd:decide (k < (rs ps qs 0 k).length) = false:=by simp;omega
   clear e
   go_wp2
   go_ret
   exact ⟨by rw [R.out];rfl,HR.out.below⟩
end Go.Proofs.Ytcdclihinmdgiaa.fns

namespace Go.Proofs.Ytcdclihinmdgiaa.fns
open Go.ChangeShapes Go.WideShapes Go.ChangeAt Go.RowKit
open mem ints arr pm permOk permOf inv
set_option linter.unusedVariables false
set_option maxRecDepth 100000
theorem qbr {P:Program} {ops:Array Oper} {rest:List Oper} {o:Oper} {a:Act} {w:World} {Q:Exit->Act->World->Prop} (hw:Region.wanted o (yielded ops a.tmps) = true) (ty:TypeId) (x:Operand) (ho:o.op = .load ty x)
  (g:Nat) (hx:a.eval x = .pointer (some ⟨g,0,none⟩)) (t:TypeId) (cs:Array Value) (fr:Nat × Nat) (d:TypeDesc) (hg:w.heap[g]? = some (.cells cs t fr))
  (hu:P.underlying ty = some d) (hd:(match d with | .struct _ | .array _ _=>true | _=>false) = true) (hi:(P.info? ty).map (·.size) = some cs.size)
  (h:wpList P ops Q rest (a.put o.dst (.agg cs)) w):wpList P ops Q (o :: rest) a w :=
 wpList_step fun K hK=>by rw [if_pos hw];exact wp_load_row ty x ho g hx t cs fr d hg hu hd hi (hK _ _ h)
set_option maxHeartbeats 1000000 in
theorem qqf (A:Option Addr) (n c:Nat) (xs:List Int) (B:Option Addr) (m d:Nat) (ys:List Int) (h1 h2:Nat) (w:World) (hx:Rd w h1 A n (V xs)) (hy:Rd w h2 B m (V ys)) (hn:n<=1048576) (hm:m<=1048576) (hc:n<=c) (hd:m<=d) :
  Calls sqp.prog 45 #[.slice A n c,.slice B m d] w fun e w'=>e = .returned (.bool (zh xs ys))/\Below w.heap.size w w':=by
 have lx:xs.length = n:=by simpa [V] using hx.1
 have ly:ys.length = m:=by simpa [V] using hy.1
 have LX:=Lib.hid lx;have LY:=Lib.hid ly;clear lx ly
 have HX:=Lib.hid hx;have HY:=Lib.hid hy;clear hx hy
 by_cases ox:okB xs = true
 ·by_cases oy:okB ys = true
  ·by_cases hnm:n = m
   ·subst hnm
    by_cases hn0:0 < n
    ·have OX:=Lib.hid (Ok.of xs ox);have OY:=Lib.hid (Ok.of ys oy)
     have R:Hid (zh xs ys = decide ((reach xs ys 0).length = n)):=Lib.hid (by simp [zh,qd3,ox,oy,LX.out,LY.out,hn0])
     have HOX:=Lib.hid ox;have HOY:=Lib.hid oy;clear ox oy
     go_enter sqp.func45,sqp.ntmps45
     go_wp2_with fail
     refine (permOk.uh A n c xs _ _ HX.out hn hc).mono ?_
     rintro e w1 ⟨rfl,rfl⟩
     rw [HOX.out]
     go_wp2_with fail
     refine (permOk.uh B n d ys _ _ HY.out hm hd).mono ?_
     rintro e w1 ⟨rfl,rfl⟩
     rw [HOY.out]
     go_wp2_with fail
     refine (qkp A n c B n d xs ys 0 _ _ _ HX.out HY.out OX.out OY.out rfl (by omega) (by omega)).mono ?_
     rintro e w3 ⟨v,rfl,ho,hb⟩
     obtain ⟨C,cc,rfl⟩:=za ho
     have HB:=Lib.hid hb;clear ho hb
     have HLN:Hid ((reach xs ys 0).length = (reach xs ys 0).length):=Lib.hid rfl
     generalize (reach xs ys 0).length = r at *
     by_cases hr:r = n
     ·subst hr
      go_wp2_with fail
      go_ret
      exact ⟨qx (by rw [R.out];simp),HB.out⟩
     ·have hq:((r:Int) == (n:Int)) = false:=by simp;omega
      have HR:=Lib.hid hr;clear hr
      go_wp2_with fail
      go_ret
      exact ⟨qx (by rw [R.out,decide_eq_false HR.out]),HB.out⟩
    ·obtain rfl:n = 0:=by omega
     have R:Hid (zh xs ys = false):=Lib.hid (by simp [zh,LX.out])
     have HOX:=Lib.hid ox;have HOY:=Lib.hid oy;clear ox oy
     go_enter sqp.func45,sqp.ntmps45
     go_wp2_with fail
     refine (permOk.uh A 0 c xs _ _ HX.out hn hc).mono ?_
     rintro e w1 ⟨rfl,rfl⟩
     rw [HOX.out]
     go_wp2_with fail
     refine (permOk.uh B 0 d ys _ _ HY.out hm hd).mono ?_
     rintro e w1 ⟨rfl,rfl⟩
     rw [HOY.out]
     go_wp2_with fail
     go_ret
     exact ⟨qx R.out.symm,Below.refl _ _⟩
   ·have R:Hid (zh xs ys = false):=Lib.hid (by simp [zh,qd3,LX.out,LY.out,hnm])
    have hb:((n:Int) == (m:Int)) = false:=by simp;omega
    have HOX:=Lib.hid ox;have HOY:=Lib.hid oy;clear ox oy hnm
    go_enter sqp.func45,sqp.ntmps45
    go_wp2_with fail
    refine (permOk.uh A n c xs _ _ HX.out hn hc).mono ?_
    rintro e w1 ⟨rfl,rfl⟩
    rw [HOX.out]
    go_wp2_with fail
    refine (permOk.uh B m d ys _ _ HY.out hm hd).mono ?_
    rintro e w1 ⟨rfl,rfl⟩
    rw [HOY.out]
    go_wp2_with fail
    go_ret
    exact ⟨qx R.out.symm,Below.refl _ _⟩
  ·have oy':okB ys = false:=by simpa using oy
   have R:Hid (zh xs ys = false):=Lib.hid (by simp [zh,qd3,oy'])
   have HOX:=Lib.hid ox;have HOY:=Lib.hid oy';clear ox oy oy'
   go_enter sqp.func45,sqp.ntmps45
   go_wp2_with fail
   refine (permOk.uh A n c xs _ _ HX.out hn hc).mono ?_
   rintro e w1 ⟨rfl,rfl⟩
   rw [HOX.out]
   go_wp2_with fail
   refine (permOk.uh B m d ys _ _ HY.out hm hd).mono ?_
   rintro e w1 ⟨rfl,rfl⟩
   rw [HOY.out]
   go_wp2_with fail
   go_ret
   exact ⟨qx R.out.symm,Below.refl _ _⟩
 ·have ox':okB xs = false:=by simpa using ox
  have R:Hid (zh xs ys = false):=Lib.hid (by simp [zh,qd3,ox'])
  have HOX:=Lib.hid ox';clear ox ox'
  go_enter sqp.func45,sqp.ntmps45
  go_wp2_with fail
  refine (permOk.uh A n c xs _ _ HX.out hn hc).mono ?_
  rintro e w1 ⟨rfl,rfl⟩
  rw [HOX.out]
  go_wp2_with fail
  go_ret
  exact ⟨qx R.out.symm,Below.refl _ _⟩
set_option maxHeartbeats 2000000 in
theorem qhf (A:Option Addr) (n c:Nat) (xs:List Int) (B:Option Addr) (m d:Nat) (ys:List Int) (h1 h2:Nat) (w:World) (hx:Rd w h1 A n (V xs)) (hy:Rd w h2 B m (V ys)) (hn:n<=1048576) (hm:m<=1048576) (hn0:0 < n) :
  Calls sqp.prog 72 #[.slice A n c,.slice B m d] w fun e w'=>e = .returned (.bool (zh xs ys))/\Below w.heap.size w w':=by
 have lx:xs.length = n:=by simpa [V] using hx.1
 have ly:ys.length = m:=by simpa [V] using hy.1
 have LX:=Lib.hid lx;have LY:=Lib.hid ly;clear lx ly
 have HX:=Lib.hid hx;have HY:=Lib.hid hy;clear hx hy
 by_cases hall:qd3 xs ys = true
 ·obtain ⟨ox,oy,el⟩:=qc7.1 hall
  have OX:=Lib.hid (Ok.of xs ox);have OY:=Lib.hid (Ok.of ys oy)
  have hn24:n<=24:=by have:=OX.out.len;rw [LX.out] at this;exact this
  have HF:Hid (zh xs ys = decide ((reach (ext xs) (ext ys) 0).length = n)):=Lib.hid (by rw [qgd OX.out OY.out el (by omega) (by rw [LX.out];omega)];simp [zh,hall,LX.out,hn0])
  have HA:=Lib.hid hall;clear hall ox oy el
  go_enter sqp.func72,sqp.ntmps72
  go_wp2_with fail
  refine (qay A n c B m d xs ys _ _ _ HX.out HY.out hn hm HX.out.2.1 HY.out.2.1).mono ?_
  rintro e w1 ⟨rfl,b1⟩
  rw [HA.out,if_pos rfl,if_pos rfl]
  have B1:=Lib.hid b1;clear b1
  go_wp2_with (first | (refine wpList_store_row rfl 41 (.tmp 5) (.tmp 12) rfl w1.heap.size (V (ext xs)).toArray rfl rfl 41 (V zeros).toArray ((Arr.new w1 (V zeros) _ rfl).alloc _) (qo (qc _)) (by simp [q8,qc,zeros]) (zy _) ?_;generalize hw3:((w1.alloc (.cells #[.int .i64 0,.int .i64 0,.int .i64 0,.int .i64 0,.int .i64 0,.int .i64 0,.int .i64 0,.int .i64 0,.int .i64 0,.int .i64 0,.int .i64 0,.int .i64 0,.int .i64 0,.int .i64 0,.int .i64 0,.int .i64 0,.int .i64 0,.int .i64 0,.int .i64 0,.int .i64 0,.int .i64 0,.int .i64 0,.int .i64 0,.int .i64 0] 41)).alloc (.cells #[.int .i64 0,.int .i64 0,.int .i64 0,.int .i64 0,.int .i64 0,.int .i64 0,.int .i64 0,.int .i64 0,.int .i64 0,.int .i64 0,.int .i64 0,.int .i64 0,.int .i64 0,.int .i64 0,.int .i64 0,.int .i64 0,.int .i64 0,.int .i64 0,.int .i64 0,.int .i64 0,.int .i64 0,.int .i64 0,.int .i64 0,.int .i64 0] 41)).setRow w1.heap.size (V (ext xs)).toArray = w3;have S1:Hid (Arr w3 w1.heap.size (V (ext xs)) 41):=Lib.hid (by rw [<-hw3];exact ((Arr.new w1 (V zeros) _ rfl).alloc _).row);have S2:Hid (Arr w3 (w1.heap.size + 1) (V zeros) 41):=Lib.hid (by rw [<-hw3];exact (Arr.new _ (V zeros) _ (by simp)).qh (by omega));have B3:Hid (Below w.heap.size w w3):=Lib.hid (by rw [<-hw3];exact arr.below_setRow ((B1.out.alloc B1.out.size _).alloc (by have:=B1.out.size;simp;omega) _) B1.out.size _);clear hw3) | (refine wpList_store_row rfl 41 (.tmp 6) (.tmp 13) rfl (w1.heap.size + 1) (V (ext ys)).toArray rfl rfl 41 (V zeros).toArray S2.out (qo (qc _)) (by simp [q8,qc,zeros]) (zy _) ?_;generalize hw4:w3.setRow (w1.heap.size + 1) (V (ext ys)).toArray = w4;have T1:Hid (Arr w4 w1.heap.size (V (ext xs)) 41):=Lib.hid (by rw [<-hw4];exact S1.out.qh (by omega));have T2:Hid (Arr w4 (w1.heap.size + 1) (V (ext ys)) 41):=Lib.hid (by rw [<-hw4];exact S2.out.row);have B4:Hid (Below w.heap.size w w4):=Lib.hid (by rw [<-hw4];exact arr.below_setRow B3.out (by have:=B1.out.size;omega) _);clear hw4 S1 S2 B3) | (refine qbr rfl 41 (.tmp 5) rfl w1.heap.size rfl 41 (V (ext xs)).toArray (0,0) _ T1.out sqp.underlying41 rfl (qo (qc _)) ?_) | (refine qbr rfl 41 (.tmp 6) rfl (w1.heap.size + 1) rfl 41 (V (ext ys)).toArray (0,0) _ T2.out sqp.underlying41 rfl (qo (qc _)) ?_))
  refine (qjx (ext xs) (ext ys) _ OX.out.sq OY.out.sq).mono ?_
  rintro e w2 ⟨rfl,b2⟩
  have B2:=Lib.hid (B4.out.trans (b2.mono B4.out.size))
  clear b2 B1 B4 T1 T2
  generalize (reach (ext xs) (ext ys) 0).length = r at *
  by_cases hr:r = n
  ·subst hr
   go_wp2_with fail
   go_ret
   exact ⟨qx (by rw [HF.out];simp),B2.out⟩
  ·have hq:((r:Int) == (n:Int)) = false:=by simp;omega
   have HR:=Lib.hid hr;clear hr
   go_wp2_with fail
   go_ret
   exact ⟨qx (by rw [HF.out,decide_eq_false HR.out]),B2.out⟩
 ·have hall':qd3 xs ys = false:=by simpa using hall
  have HF:Hid (zh xs ys = false):=Lib.hid (by simp [zh,hall'])
  have HA:=Lib.hid hall';clear hall hall'
  go_enter sqp.func72,sqp.ntmps72
  go_wp2_with fail
  refine (qay A n c B m d xs ys _ _ _ HX.out HY.out hn hm HX.out.2.1 HY.out.2.1).mono ?_
  rintro e w1 ⟨rfl,b1⟩
  rw [HA.out,if_neg (by decide),if_neg (by decide)]
  have B1:=Lib.hid b1;clear b1
  go_wp2_with (first | (refine wpList_store_row rfl 41 (.tmp 5) (.tmp 12) rfl w1.heap.size (V zeros).toArray rfl rfl 41 (V zeros).toArray ((Arr.new w1 (V zeros) _ rfl).alloc _) (qo zf) rfl (zy _) ?_;generalize hw3:((w1.alloc (.cells #[.int .i64 0,.int .i64 0,.int .i64 0,.int .i64 0,.int .i64 0,.int .i64 0,.int .i64 0,.int .i64 0,.int .i64 0,.int .i64 0,.int .i64 0,.int .i64 0,.int .i64 0,.int .i64 0,.int .i64 0,.int .i64 0,.int .i64 0,.int .i64 0,.int .i64 0,.int .i64 0,.int .i64 0,.int .i64 0,.int .i64 0,.int .i64 0] 41)).alloc (.cells #[.int .i64 0,.int .i64 0,.int .i64 0,.int .i64 0,.int .i64 0,.int .i64 0,.int .i64 0,.int .i64 0,.int .i64 0,.int .i64 0,.int .i64 0,.int .i64 0,.int .i64 0,.int .i64 0,.int .i64 0,.int .i64 0,.int .i64 0,.int .i64 0,.int .i64 0,.int .i64 0,.int .i64 0,.int .i64 0,.int .i64 0,.int .i64 0] 41)).setRow w1.heap.size (V zeros).toArray = w3;have S1:Hid (Arr w3 w1.heap.size (V zeros) 41):=Lib.hid (by rw [<-hw3];exact ((Arr.new w1 (V zeros) _ rfl).alloc _).row);have S2:Hid (Arr w3 (w1.heap.size + 1) (V zeros) 41):=Lib.hid (by rw [<-hw3];exact (Arr.new _ (V zeros) _ (by simp)).qh (by omega));have B3:Hid (Below w.heap.size w w3):=Lib.hid (by rw [<-hw3];exact arr.below_setRow ((B1.out.alloc B1.out.size _).alloc (by have:=B1.out.size;simp;omega) _) B1.out.size _);clear hw3) | (refine wpList_store_row rfl 41 (.tmp 6) (.tmp 13) rfl (w1.heap.size + 1) (V zeros).toArray rfl rfl 41 (V zeros).toArray S2.out (qo zf) rfl (zy _) ?_;generalize hw4:w3.setRow (w1.heap.size + 1) (V zeros).toArray = w4;have T1:Hid (Arr w4 w1.heap.size (V zeros) 41):=Lib.hid (by rw [<-hw4];exact S1.out.qh (by omega));have T2:Hid (Arr w4 (w1.heap.size + 1) (V zeros) 41):=Lib.hid (by rw [<-hw4];exact S2.out.row);have B4:Hid (Below w.heap.size w w4):=Lib.hid (by rw [<-hw4];exact arr.below_setRow B3.out (by have:=B1.out.size;omega) _);clear hw4 S1 S2 B3))
  go_ret
  exact ⟨qx HF.out.symm,B4.out⟩
set_option maxHeartbeats 2000000 in
theorem qg8 (A:Option Addr) (n c:Nat) (xs:List Int) (B:Option Addr) (m d:Nat) (ys:List Int) (h1 h2:Nat) (w:World) (hx:Rd w h1 A n (V xs)) (hy:Rd w h2 B m (V ys)) (hn:n<=1048576) (hm:m<=1048576) (hn0:n = 0) :
  Calls sqp.prog 72 #[.slice A n c,.slice B m d] w fun e w'=>e = .returned (.bool (zh xs ys))/\Below w.heap.size w w':=by
 subst hn0
 have lx:xs.length = 0:=by simpa [V] using hx.1
 have ly:ys.length = m:=by simpa [V] using hy.1
 have LX:=Lib.hid lx;have LY:=Lib.hid ly;clear lx ly
 have HX:=Lib.hid hx;have HY:=Lib.hid hy;clear hx hy
 by_cases hall:qd3 xs ys = true
 ·obtain ⟨ox,oy,el⟩:=qc7.1 hall
  have OX:=Lib.hid (Ok.of xs ox);have OY:=Lib.hid (Ok.of ys oy)
  have hn24:0<=24:=by have:=OX.out.len;rw [LX.out] at this;exact this
  have HF:Hid (zh xs ys = false):=Lib.hid (by simp [zh,LX.out])
  have HA:=Lib.hid hall;clear hall ox oy el
  go_enter sqp.func72,sqp.ntmps72
  go_wp2_with fail
  refine (qay A 0 c B m d xs ys _ _ _ HX.out HY.out hn hm HX.out.2.1 HY.out.2.1).mono ?_
  rintro e w1 ⟨rfl,b1⟩
  rw [HA.out,if_pos rfl,if_pos rfl]
  have B1:=Lib.hid b1;clear b1
  go_wp2_with (first | (refine wpList_store_row rfl 41 (.tmp 5) (.tmp 12) rfl w1.heap.size (V (ext xs)).toArray rfl rfl 41 (V zeros).toArray ((Arr.new w1 (V zeros) _ rfl).alloc _) (qo (qc _)) (by simp [q8,qc,zeros]) (zy _) ?_;generalize hw3:((w1.alloc (.cells #[.int .i64 0,.int .i64 0,.int .i64 0,.int .i64 0,.int .i64 0,.int .i64 0,.int .i64 0,.int .i64 0,.int .i64 0,.int .i64 0,.int .i64 0,.int .i64 0,.int .i64 0,.int .i64 0,.int .i64 0,.int .i64 0,.int .i64 0,.int .i64 0,.int .i64 0,.int .i64 0,.int .i64 0,.int .i64 0,.int .i64 0,.int .i64 0] 41)).alloc (.cells #[.int .i64 0,.int .i64 0,.int .i64 0,.int .i64 0,.int .i64 0,.int .i64 0,.int .i64 0,.int .i64 0,.int .i64 0,.int .i64 0,.int .i64 0,.int .i64 0,.int .i64 0,.int .i64 0,.int .i64 0,.int .i64 0,.int .i64 0,.int .i64 0,.int .i64 0,.int .i64 0,.int .i64 0,.int .i64 0,.int .i64 0,.int .i64 0] 41)).setRow w1.heap.size (V (ext xs)).toArray = w3;have S1:Hid (Arr w3 w1.heap.size (V (ext xs)) 41):=Lib.hid (by rw [<-hw3];exact ((Arr.new w1 (V zeros) _ rfl).alloc _).row);have S2:Hid (Arr w3 (w1.heap.size + 1) (V zeros) 41):=Lib.hid (by rw [<-hw3];exact (Arr.new _ (V zeros) _ (by simp)).qh (by omega));have B3:Hid (Below w.heap.size w w3):=Lib.hid (by rw [<-hw3];exact arr.below_setRow ((B1.out.alloc B1.out.size _).alloc (by have:=B1.out.size;simp;omega) _) B1.out.size _);clear hw3) | (refine wpList_store_row rfl 41 (.tmp 6) (.tmp 13) rfl (w1.heap.size + 1) (V (ext ys)).toArray rfl rfl 41 (V zeros).toArray S2.out (qo (qc _)) (by simp [q8,qc,zeros]) (zy _) ?_;generalize hw4:w3.setRow (w1.heap.size + 1) (V (ext ys)).toArray = w4;have T1:Hid (Arr w4 w1.heap.size (V (ext xs)) 41):=Lib.hid (by rw [<-hw4];exact S1.out.qh (by omega));have T2:Hid (Arr w4 (w1.heap.size + 1) (V (ext ys)) 41):=Lib.hid (by rw [<-hw4];exact S2.out.row);have B4:Hid (Below w.heap.size w w4):=Lib.hid (by rw [<-hw4];exact arr.below_setRow B3.out (by have:=B1.out.size;omega) _);clear hw4 S1 S2 B3))
  go_ret
  exact ⟨qx HF.out.symm,B4.out⟩
 ·have hall':qd3 xs ys = false:=by simpa using hall
  have HF:Hid (zh xs ys = false):=Lib.hid (by simp [zh,hall'])
  have HA:=Lib.hid hall';clear hall hall'
  go_enter sqp.func72,sqp.ntmps72
  go_wp2_with fail
  refine (qay A 0 c B m d xs ys _ _ _ HX.out HY.out hn hm HX.out.2.1 HY.out.2.1).mono ?_
  rintro e w1 ⟨rfl,b1⟩
  rw [HA.out,if_neg (by decide),if_neg (by decide)]
  have B1:=Lib.hid b1;clear b1
  go_wp2_with (first | (refine wpList_store_row rfl 41 (.tmp 5) (.tmp 12) rfl w1.heap.size (V zeros).toArray rfl rfl 41 (V zeros).toArray ((Arr.new w1 (V zeros) _ rfl).alloc _) (qo zf) rfl (zy _) ?_;generalize hw3:((w1.alloc (.cells #[.int .i64 0,.int .i64 0,.int .i64 0,.int .i64 0,.int .i64 0,.int .i64 0,.int .i64 0,.int .i64 0,.int .i64 0,.int .i64 0,.int .i64 0,.int .i64 0,.int .i64 0,.int .i64 0,.int .i64 0,.int .i64 0,.int .i64 0,.int .i64 0,.int .i64 0,.int .i64 0,.int .i64 0,.int .i64 0,.int .i64 0,.int .i64 0] 41)).alloc (.cells #[.int .i64 0,.int .i64 0,.int .i64 0,.int .i64 0,.int .i64 0,.int .i64 0,.int .i64 0,.int .i64 0,.int .i64 0,.int .i64 0,.int .i64 0,.int .i64 0,.int .i64 0,.int .i64 0,.int .i64 0,.int .i64 0,.int .i64 0,.int .i64 0,.int .i64 0,.int .i64 0,.int .i64 0,.int .i64 0,.int .i64 0,.int .i64 0] 41)).setRow w1.heap.size (V zeros).toArray = w3;have S1:Hid (Arr w3 w1.heap.size (V zeros) 41):=Lib.hid (by rw [<-hw3];exact ((Arr.new w1 (V zeros) _ rfl).alloc _).row);have S2:Hid (Arr w3 (w1.heap.size + 1) (V zeros) 41):=Lib.hid (by rw [<-hw3];exact (Arr.new _ (V zeros) _ (by simp)).qh (by omega));have B3:Hid (Below w.heap.size w w3):=Lib.hid (by rw [<-hw3];exact arr.below_setRow ((B1.out.alloc B1.out.size _).alloc (by have:=B1.out.size;simp;omega) _) B1.out.size _);clear hw3) | (refine wpList_store_row rfl 41 (.tmp 6) (.tmp 13) rfl (w1.heap.size + 1) (V zeros).toArray rfl rfl 41 (V zeros).toArray S2.out (qo zf) rfl (zy _) ?_;generalize hw4:w3.setRow (w1.heap.size + 1) (V zeros).toArray = w4;have T1:Hid (Arr w4 w1.heap.size (V zeros) 41):=Lib.hid (by rw [<-hw4];exact S1.out.qh (by omega));have T2:Hid (Arr w4 (w1.heap.size + 1) (V zeros) 41):=Lib.hid (by rw [<-hw4];exact S2.out.row);have B4:Hid (Below w.heap.size w w4):=Lib.hid (by rw [<-hw4];exact arr.below_setRow B3.out (by have:=B1.out.size;omega) _);clear hw4 S1 S2 B3))
  go_ret
  exact ⟨qx HF.out.symm,B4.out⟩
theorem qqg (A:Option Addr) (n c:Nat) (xs:List Int) (B:Option Addr) (m d:Nat) (ys:List Int) (h1 h2:Nat) (w:World) (hx:Rd w h1 A n (V xs)) (hy:Rd w h2 B m (V ys)) (hn:n<=1048576) (hm:m<=1048576) :
  Calls sqp.prog 72 #[.slice A n c,.slice B m d] w fun e w'=>e = .returned (.bool (zh xs ys))/\Below w.heap.size w w':=by
 rcases Nat.eq_zero_or_pos n with h0 | h0
 ·exact qg8 A n c xs B m d ys h1 h2 w hx hy hn hm h0
 ·exact qhf A n c xs B m d ys h1 h2 w hx hy hn hm h0
end Go.Proofs.Ytcdclihinmdgiaa.fns

namespace Go.Proofs.Ytcdclihinmdgiaa.same
open Go.ChangeShapes Go.WideShapes Go.ChangeAt Go.RowKit
open mem ints
set_option linter.unusedVariables false
set_option maxRecDepth 100000
set_option maxHeartbeats 400000 in
theorem uh (A:Option Addr) (n c:Nat) (B:Option Addr) (m d:Nat) (xs ys:List Int) (h1 h2:Nat) (w:World)
  (hx:Rd w h1 A n (V xs)) (hy:Rd w h2 B m (V ys)) (hn:n<=maxLen) (hm:m<=maxLen) :
  Calls sqp.prog 48 #[.slice A n c,.slice B m d] w fun e w'=>e = .returned (.bool (eqi xs ys))/\qbg w w':=by
 unfold maxLen at hn hm
 have lx:xs.length = n:=by simpa [V] using hx.1
 have ly:ys.length = m:=by simpa [V] using hy.1
 have LX:=Lib.hid lx;have LY:=Lib.hid ly;clear lx ly
 have HX:=Lib.hid hx;have HY:=Lib.hid hy;clear hx hy
 by_cases hnm:n = m
 ·obtain rfl:m = n:=hnm.symm
  clear hnm
  go_enter sqp.func48,sqp.ntmps48
  go_wp2
  go_loopw [14] (fun i wr=>∃ k:Nat,k<=m/\i = .int .i64 k/\qbg w wr/\Same xs ys k) (fun i _=>m - (intOf i).toNat)
  case atStart=>exact ⟨0,Nat.zero_le _,rfl,⟨0,rfl⟩,fun j hj=>by omega⟩
  case round =>
   obtain ⟨k,hk,rfl,hdr,hsame⟩:=hrel
   have HS:=Lib.hid hsame;have HD:=Lib.hid hdr;clear hsame hdr
   by_cases hlt:k < m
   ·obtain ⟨g,off,u,rfl,_,hxu,hcx⟩:=HX.out.at_ hlt
    obtain ⟨g',off',u',rfl,_,hyu,hcy⟩:=HY.out.at_ hlt
    obtain ⟨s,hxs,rfl⟩:=qhb hxu
    obtain ⟨t,hyt,rfl⟩:=qhb hyu
    rw [<-HD.out.cell] at hcx hcy
    have HXS:=Lib.hid hxs;have HYT:=Lib.hid hyt;clear hxs hyt hxu hyu
    by_cases hst:s = t
    ·subst hst
     go_wp2
     go_roundw
     case rel=>exact ⟨k + 1,by omega,by go_num,HD.out,HS.out.step HXS.out HYT.out⟩
     case measure=>simp [intOf];omega
    ·have hb:(s != t) = true:=by simpa using hst
     have HST:=Lib.hid hst;clear hst
     go_wp2
     go_ret
     exact ⟨qx (qxg HXS.out HYT.out HST.out).symm,HD.out⟩
   ·obtain rfl:k = m:=by omega
    go_wp2
    go_ret
    exact ⟨qx (ql0 LX.out LY.out HS.out).symm,HD.out⟩
 ·have hb:((n:Int) != (m:Int)) = true:=by simp;omega
  have HB:eqi xs ys = false:=qrq (by rw [LX.out,LY.out];exact hnm)
  have HB:=Lib.hid HB
  clear hnm
  go_enter sqp.func48,sqp.ntmps48
  go_wp2
  go_ret
  exact ⟨qx HB.out.symm,0,rfl⟩
theorem qsn (A:Option Addr) (n c:Nat) (xs:List Int) (B:Option Addr) (m d:Nat) (ys:List Int) (h1 h2:Nat) (w:World)
  (hx:Rd w h1 A n (V xs)) (hy:Rd w h2 B m (V ys)) (hn:n<=1048576) (hm:m<=1048576) :
  Calls sqp.prog 48 #[.slice A n c,.slice B m d] w fun e w'=>e = .returned (.bool (eqi xs ys))/\Below w.heap.size w w' :=
 (uh A n c B m d xs ys h1 h2 w hx hy (by unfold maxLen;omega) (by unfold maxLen;omega)).mono fun _ _ ⟨he,hd⟩=>⟨he,hd.below _⟩
end Go.Proofs.Ytcdclihinmdgiaa.same

namespace Go.Proofs.Ytcdclihinmdgiaa.sf
open Go.ChangeShapes Go.WideShapes Go.ChangeAt Go.RowKit
open mem ints arr pm fns
set_option linter.unusedVariables false
set_option maxRecDepth 100000
theorem Srd.open {w:World} {hi:Nat} {v:Value} {r u:List Int} (h:Srd w hi v r u) :
  ∃ P n c Q m d,v = .agg #[.slice P n c,.slice Q m d]/\r.length = n/\u.length = m/\n<=c/\m<=d/\hi<=w.heap.size/\Hid (∀ o,Rd (w.alloc o) hi P n (V r)/\Rd (w.alloc o) hi Q m (V u)):=by
 obtain ⟨P,n,c,Q,m,d,rfl,a,b,e1,e2⟩:=h
 exact ⟨P,n,c,Q,m,d,rfl,by simpa [V] using a.1,by simpa [V] using b.1,e1,e2,a.2.1,Lib.hid (fun o=>⟨a.keep ((Below.refl hi w).alloc a.2.1 o) (Nat.le_refl _),b.keep ((Below.refl hi w).alloc a.2.1 o) (Nat.le_refl _)⟩)⟩
theorem qoa (w:World) (o:Obj) {w':World} (h:Below (w.alloc o).heap.size (w.alloc o) w'):Below w.heap.size w w':=((Below.refl _ _).alloc (Nat.le_refl _) _).trans (h.mono (by simp))
set_option maxHeartbeats 400000 in
theorem qrd (v:Value) (r u:List Int) (hi:Nat) (w:World) (hx:Srd w hi v r u) (hn:r.length<=1048576) (hm:u.length<=1048576) :
  Calls sqp.prog 25 #[v] w fun e w'=>e = .returned (.bool (zh r u))/\Below w.heap.size w w':=by
 obtain ⟨P,n,c,Q,m,d,rfl,q1,q2,e1,e2,ht,HR⟩:=hx.open
 clear hx
 go_enter sqp.func25,sqp.ntmps25
 go_wp2_with fail
 refine (qqf P n c r Q m d u _ _ _ (HR.out _).1 (HR.out _).2 (by omega) (by omega) e1 e2).mono ?_
 rintro e w1 ⟨rfl,b1⟩
 have B1:=Lib.hid (qoa _ _ b1);clear b1
 go_wp2_with fail
 go_ret
 exact ⟨rfl,B1.out⟩
set_option maxHeartbeats 400000 in
theorem qzu (v:Value) (r u:List Int) (hi:Nat) (w:World) (hx:Srd w hi v r u) (hn:r.length<=1048576) (hm:u.length<=1048576) :
  Calls sqp.prog 57 #[v] w fun e w'=>e = .returned (.bool (zh r u))/\Below w.heap.size w w':=by
 obtain ⟨P,n,c,Q,m,d,rfl,q1,q2,e1,e2,ht,HR⟩:=hx.open
 clear hx
 go_enter sqp.func57,sqp.ntmps57
 go_wp2_with fail
 refine (qqg P n c r Q m d u _ _ _ (HR.out _).1 (HR.out _).2 (by omega) (by omega)).mono ?_
 rintro e w1 ⟨rfl,b1⟩
 have B1:=Lib.hid (qoa _ _ b1);clear b1
 go_wp2_with fail
 go_ret
 exact ⟨rfl,B1.out⟩
def qiz (r u r' u':List Int):Bool:=eqi r r' && eqi u u'
set_option maxHeartbeats 1000000 in
theorem qkq (x:Value) (r u:List Int) (y:Value) (r' u':List Int) (h1 h2:Nat) (w:World) (hx:Srd w h1 x r u) (hy:Srd w h2 y r' u') (hn:r.length<=1048576) (hm:u.length<=1048576) (hn':r'.length<=1048576) (hm':u'.length<=1048576) :
  Calls sqp.prog 27 #[x,y] w fun e w'=>e = .returned (.bool (qiz r u r' u'))/\Below w.heap.size w w':=by
 obtain ⟨P,n,c,Q,m,d,rfl,rp,rq,e1,e2⟩:=hx
 obtain ⟨P',n',c',Q',m',d',rfl,rp',rq',e1',e2'⟩:=hy
 have q1:r.length = n:=by simpa [V] using rp.1
 have q2:u.length = m:=by simpa [V] using rq.1
 have q1':r'.length = n':=by simpa [V] using rp'.1
 have q2':u'.length = m':=by simpa [V] using rq'.1
 have RP:=Lib.hid rp;have RQ:=Lib.hid rq;have RP':=Lib.hid rp';have RQ':=Lib.hid rq';clear rp rq rp' rq'
 have HI:=RP.out.2.1;have HI':=RP'.out.2.1
 have B1:Hid (∀ a b,Below w.heap.size w ((w.alloc a).alloc b)):=Lib.hid (fun a b=>((Below.refl _ _).alloc (Nat.le_refl _) _).alloc (by simp) _)
 go_enter sqp.func27,sqp.ntmps27
 go_wp2_with fail
 refine (same.qsn P n c r P' n' c' r' _ _ _ (RP.out.keep (B1.out _ _) HI) (RP'.out.keep (B1.out _ _) HI') (by omega) (by omega)).mono ?_
 rintro e w1 ⟨rfl,d1⟩
 by_cases hh:eqi r r' = true
 ·rw [hh]
  have D1:=Lib.hid d1;clear d1
  have c1:=(((Arr.new w [.slice P n c,.slice Q m d] 32 rfl).alloc (.cells #[.slice P' n' c',.slice Q' m' d'] 32)).keep D1.out (by simp <;> omega)).cell (k:=1) rfl
  have c2:=((Arr.new (w.alloc (.cells #[.slice P n c,.slice Q m d] 32)) [.slice P' n' c',.slice Q' m' d'] 32 (g:=w.heap.size + 1) (by simp <;> omega)).keep D1.out (by simp <;> omega)).cell (k:=1) rfl
  have BB:Hid (Below w.heap.size w w1):=Lib.hid ((B1.out _ _).trans (D1.out.mono (by simp <;> omega)))
  go_wp2_with fail
  refine (same.qsn Q m d u Q' m' d' u' _ _ _ (RQ.out.keep BB.out HI) (RQ'.out.keep BB.out HI') (by omega) (by omega)).mono ?_
  rintro e w2 ⟨rfl,d2⟩
  have BB2:Hid (Below w.heap.size w w2):=Lib.hid (BB.out.trans (d2.mono BB.out.size))
  clear d2
  have HH:=Lib.hid hh;clear hh
  cases hq:eqi u u' <;> (have HQ:=Lib.hid hq;clear hq;go_wp2_with fail;go_ret;exact ⟨qx (by rw [qiz,HH.out,HQ.out];rfl),BB2.out⟩)
 ·have hf:eqi r r' = false:=by simpa using hh
  rw [hf]
  have BB:Hid (Below w.heap.size w w1):=Lib.hid ((B1.out _ _).trans (d1.mono (by simp <;> omega)))
  have HH:=Lib.hid hf;clear d1 hf hh
  go_wp2_with fail
  go_ret
  exact ⟨qx (by rw [qiz,HH.out];rfl),BB.out⟩
end Go.Proofs.Ytcdclihinmdgiaa.sf

namespace Go.Proofs.Ytcdclihinmdgiaa.sf
open Go.ChangeShapes Go.WideShapes Go.ChangeAt Go.RowKit
open mem ints arr
set_option linter.unusedVariables false
set_option maxRecDepth 100000
structure Hld (base top:Nat) (w:World) (bs:List (Nat × List Value)) (w':World):Prop where
 at_:∀ p ∈ bs,p.1 < top/\w'.rangeAt p.1 0 p.2
 below:Below base w w'
 size:top<=w'.heap.size
theorem Hld.qa6 {w:World} {a:Nat} {xs:List Value} {t:TypeId} (h1:Arr w a xs t):Hld w.heap.size w.heap.size w [(a,xs)] w.drew :=
 ⟨fun p hp=>by
  simp only [List.mem_cons,List.not_mem_nil,or_false] at hp
  subst hp
  exact ⟨h1.lt,fun j v hv=>by rw [Nat.zero_add];exact h1.cell hv⟩,
  ⟨rfl,rfl,rfl,Nat.le_refl _,fun _ _=>rfl⟩,Nat.le_refl _⟩
theorem Hld.q11 {w:World} {a b:Nat} {xs ys:List Value} {t t':TypeId} (h1:Arr w a xs t) (h2:Arr w b ys t'):Hld w.heap.size w.heap.size w [(a,xs),(b,ys)] w.drew :=
 ⟨fun p hp=>by
  simp only [List.mem_cons,List.not_mem_nil,or_false] at hp
  rcases hp with rfl | rfl
  ·exact ⟨h1.lt,fun j v hv=>by rw [Nat.zero_add];exact h1.cell hv⟩
  ·exact ⟨h2.lt,fun j v hv=>by rw [Nat.zero_add];exact h2.cell hv⟩,
  ⟨rfl,rfl,rfl,Nat.le_refl _,fun _ _=>rfl⟩,Nat.le_refl _⟩
theorem Hld.fst {base top a:Nat} {w W:World} {xs:List Value} {l:List (Nat × List Value)} (h:Hld base top w ((a,xs) :: l) W):W.rangeAt a 0 xs:=(h.at_ _ (List.mem_cons_self ..)).2
theorem Hld.snd {base top a:Nat} {w W:World} {xs:List Value} {p:Nat × List Value} {l:List (Nat × List Value)} (h:Hld base top w (p :: (a,xs) :: l) W):W.rangeAt a 0 xs:=(h.at_ (a,xs) (by simp)).2
theorem Hld.later {base top:Nat} {w W W':World} {bs:List (Nat × List Value)} (h:Hld base top w bs W) (hB:Below W.heap.size W W') (hb:base<=top):Hld base top w bs W' :=
 ⟨fun p hp=>⟨(h.at_ p hp).1,fun j v hv=>by rw [hB.cell (p:=⟨p.1,0 + j,none⟩) (show p.1 < _ from Nat.lt_of_lt_of_le (h.at_ p hp).1 h.size)];exact (h.at_ p hp).2 j v hv⟩,
  h.below.trans (hB.mono (Nat.le_trans hb h.size)),Nat.le_trans h.size hB.size⟩
theorem qpo (a b:Value):(sqp.prog.info? 32).map (·.size) = some [a,b].length:=by kernel_rfl
theorem yj:(sqp.prog.info? 32).map (·.size) = some 2:=by kernel_rfl
end Go.Proofs.Ytcdclihinmdgiaa.sf
