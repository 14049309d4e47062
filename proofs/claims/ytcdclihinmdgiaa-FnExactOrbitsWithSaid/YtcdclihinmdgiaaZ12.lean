import Derived.Test.YtcdclihinmdgiaaZ04
import Derived.Test.YtcdclihinmdgiaaZ11
namespace Go.Proofs.Ytcdclihinmdgiaa.gl
open Go.ChangeShapes Go.WideShapes Go.ChangeAt Go.RowKit
open mem ints arr pm permOk permOf inv fns sf
set_option linter.unusedVariables false
set_option maxRecDepth 100000
def nms (ps qs:List Int) (f:Int):Nat->List Int
 | 0=>idl
 | k + 1=>(nms ps qs f k).set ((rs ps qs f k).getD k 0).toNat (k:Int)
theorem qif (ps qs:List Int) (f:Int) (k:Nat):(nms ps qs f k).length = 24:=by
 induction k with
 | zero=>exact jy _
 | succ k ih=>rw [nms,List.length_set];exact ih
def qqi (ps qs:List Int) (f:Int):List Int:=nms ps qs f (reach ps qs f).length
theorem q1g {ps qs:List Int} (hp:Maps 24 ps) (hq:Maps 24 qs) (l24:ps.length = 24) {f:Int} (f0:0<=f) (f1:f < 24):∀ k,k<=(reach ps qs f).length ->
  (∀ j,j < k->(nms ps qs f k).getD ((reach ps qs f).getD j 0).toNat 0 = (j:Int))/\(∀ i:Nat,i < 24->(∀ j,j < k->(reach ps qs f).getD j 0 ≠ (i:Int))->(nms ps qs f k).getD i 0 = (i:Int)):=by
 intro k
 induction k with
 | zero=>exact fun _=>⟨fun j hj=>by omega,fun i hi _=>qdm _ hi⟩
 | succ k ih =>
  intro hk
  obtain ⟨h1,h2⟩:=ih (by omega)
  have hin:In 24 (reach ps qs f):=qgc hp hq f0 f1 _
  have hle:=hin.len
  have hk24:k<=24:=by omega
  have hkk:k < (rs ps qs f k).length:=qod (m:=ps.length) (by unfold reach at hk;omega) (by omega)
  have he:(rs ps qs f k).getD k 0 = (reach ps qs f).getD k 0:=(qxn (qoc ps qs f (by omega)) hkk).symm
  obtain ⟨z,hz,_,hzd⟩:=hin.at_ (k:=k) (by omega)
  have hs:nms ps qs f (k + 1) = (nms ps qs f k).set z (k:Int):=by rw [nms,he,hzd];rfl
  have hl:=qif ps qs f k
  rw [hs]
  refine ⟨fun j hj=>?_,fun i hi hne=>?_⟩
  ·by_cases e:j = k
   ·subst e
    rw [hzd,Int.toNat_natCast]
    simp [List.getD,hl,hz]
   ·obtain ⟨y,hy,_,hyd⟩:=hin.at_ (k:=j) (by omega)
    have hyz:y ≠ z:=fun e2=>e (qhl hin.nd (by omega) (by omega) (by rw [hzd,hyd,e2]))
    rw [hyd,Int.toNat_natCast]
    have:=h1 j (by omega)
    rw [hyd,Int.toNat_natCast] at this
    rw [<-this]
    simp [List.getD,Ne.symm hyz]
  ·have hiz:i ≠ z:=fun e2=>hne k (by omega) (by rw [hzd,e2])
   rw [<-h2 i hi (fun j hj=>hne j (by omega))]
   simp [List.getD,Ne.symm hiz]
theorem qyn {n:Nat} {R U:List Int} (s:Sf n R U) {f:Int} (f0:0<=f) (f1:f < n):qqi (ext R) (ext U) f = ext (nm R U f):=by
 have hn:n<=24:=by have:=s.r.len;have:=s.lr;omega
 have er:reach (ext R) (ext U) f = reach R U f:=qgd s.r s.u (by rw [s.lr,s.lu]) f0 (by rw [s.lr];exact f1)
 have fl:=s.q2d f0 f1
 obtain ⟨nk,nl⟩:=s.nok f0 f1
 obtain ⟨h1,h2⟩:=q1g (Sq.maps s.r.sq) (Sq.maps s.u.sq) (qc _) f0 (by omega) n (by rw [er,fl];exact Nat.le_refl _)
 rw [er] at h1 h2
 unfold qqi
 rw [er,fl]
 refine qao 24 (qif _ _ _ _) (qc _) fun i hi=>?_
 rw [j5 hi,nl]
 by_cases hin:i < n
 ·rw [if_pos hin]
  obtain ⟨k,hk,e⟩:=qnk (s.full f0 f1 (y:=(i:Int)) (by omega) (by omega))
  have a:=h1 k (by omega)
  rw [e,Int.toNat_natCast] at a
  have b:=qf0 (s.rok f0 f1) hk
  rw [e,Int.toNat_natCast] at b
  rw [a]
  exact b.symm
 ·rw [if_neg hin]
  exact h2 i hi (fun j hj e=>by
   have:=(s.inn f0 f1).hi _ (qff (i:=j) (l:=reach R U f) (by omega))
   omega)
structure Nr (w wr:World) (B:Nat) (p q:List Int) (n:Nat) (v:Value) (l ns:List Int):Prop where
 own:wr.ownsRow (B + 2) 3 1 v l.length (V l)
 g:Arr wr w.heap.size (V (gl p q n)) 43
 res:Arr wr (w.heap.size + 1) (V zeros) 41
 nm:Arr wr B (V ns) 41
 met:Arr wr (B + 1) (VB (flagsOf l)) 91
 below:Below w.heap.size w wr
 hB:w.heap.size + 2<=B
theorem Nr.drew {w wr:World} {B:Nat} {p q l ns:List Int} {n:Nat} {v:Value} (h:Nr w wr B p q n v l ns) (m:Nat):Nr w (wr.drewN m) B p q n v l ns:=⟨h.own,h.g,h.res,h.nm,h.met,below_drewN h.below m,h.hB⟩
theorem Nr.ne {w wr:World} {B:Nat} {p q l ns:List Int} {n:Nat} {v:Value} (h:Nr w wr B p q n v l ns) {k:Nat} (hk:k < B + 2):some k ≠ v.ownBlock:=fun e=>by
 have:=(h.own.lt k e.symm).1;omega
theorem Nr.name {w wr:World} {B:Nat} {p q l ns:List Int} {n:Nat} {v:Value} (h:Nr w wr B p q n v l ns) (z k:Nat):Nr w (wr.setCell ⟨B,z,none⟩ (.int .i64 (k:Int))) B p q n v l (ns.set z (k:Int)):=by
 have hB:=h.hB
 refine ⟨?_,h.g.other (by omega) _,h.res.other (by omega) _,?_,h.met.other (by omega) _,h.below.setCell (show w.heap.size<=B by omega) _,hB⟩
 ·exact h.own.kept (row:=some B) ⟨rfl,rfl,rfl,by simp [World.setCell],fun i hi hne=>heap_setCell_other _ _ _ _ (fun e=>hne (by rw [e]))⟩ (.inr (fun e=>h.ne (k:=B) (by omega) e.symm))
 ·have:=h.nm.qjo z (.int .i64 (k:Int))
  rw [qj7] at this
  exact this
theorem Nr.next {w wr w1 w':World} {B:Nat} {p q l ns:List Int} {n m:Nat} {v v':Value} {z:Nat} (h:Nr w wr B p q n v l ns) (hw1:w1 = wr.setCell ⟨B + 1,z,none⟩ (.bool true))
  (ho:w'.ownsRow (B + 2) 3 1 v' (m + 1) (V l ++ [.int .i64 (z:Int)])) (hn:m = l.length) (hg:w1.grownBy w' v.ownBlock) (hz:¬ (z:Int) ∈ l):Nr w w' B p q n v' (add1 l (z:Int)) ns:=by
 subst hn
 have e:V (add1 l (z:Int)) = V l ++ [.int .i64 (z:Int)]:=by unfold add1;rw [if_neg hz];simp [V]
 have el:(add1 l (z:Int)).length = l.length + 1:=by unfold add1;rw [if_neg hz];simp
 have hB:=h.hB
 have g1:=h.g.lt;have g2:=h.res.lt;have g3:=h.nm.lt;have hm:=h.met.lt
 have s1:w1.heap.size = wr.heap.size:=by rw [hw1];simp [World.setCell]
 refine ⟨by rw [e,el];exact ho,?_,?_,?_,?_,?_,hB⟩
 ·exact (hg.block _ (by omega) (h.ne (by omega))).trans (by rw [hw1];exact h.g.other (by omega) _)
 ·exact (hg.block _ (by omega) (h.ne (by omega))).trans (by rw [hw1];exact h.res.other (by omega) _)
 ·exact (hg.block _ (by omega) (h.ne (by omega))).trans (by rw [hw1];exact h.nm.other (by omega) _)
 ·refine (hg.block _ (by omega) (h.ne (by omega))).trans ?_
  have hh:=h.met.qjo z (.bool true)
  rw [qnz,qdt hz,<-hw1] at hh
  exact hh
 ·refine Below.trans (b:=w1) (by rw [hw1];exact h.below.setCell (by simp;omega) _) ?_
  exact (Below.refl _ _).grown hg (by have:=h.below.size;omega) (fun k hk=>by have:=(h.own.lt k hk).1;omega)
theorem qlw {z:Nat}:(List.replicate 24 false).set z true = flagsOf [(z:Int)]:=by
 have h:List.replicate 24 false = flagsOf []:=by decide
 rw [h,qdt (by simp)]
 rfl
theorem qlx {p q:List Int} {n k:Nat} (hp:p.length = 24) (hk:k < 24):(V (gl p q n))[k]? = some (.int .i64 (p.getD k 0)):=by
 rw [bg (by simp [gl];omega),qum hp hk]
theorem qun {p q:List Int} {n k:Nat} (hp:p.length = 24) (hq:q.length = 24) (hk:k < 24):(V (gl p q n))[24 + k]? = some (.int .i64 (q.getD k 0)):=by
 rw [bg (by simp [gl];omega),q3g hp hq hk]
set_option maxHeartbeats 4000000 in
theorem qrg (p q:List Int) (n f:Nat) (w:World) (hp:Sq p) (hq:Sq q) (hf:f < 24) :
  Calls sqp.prog 70 #[.agg (V (gl p q n)).toArray,.int .i64 (f:Int)] w fun e w'=>e = .returned (.agg (V (qqi p q f)).toArray)/\Below w.heap.size w w':=by
 obtain ⟨i0,hi0,hz0,hz1,hz2⟩:=info_parts qeo
 have MX:=Lib.hid (Sq.maps hp);have MY:=Lib.hid (Sq.maps hq)
 have LX:=Lib.hid hp.len;have LY:=Lib.hid hq.len
 clear hp hq
 go_enter sqp.func70,sqp.ntmps70
 go_wp2_with fail
 refine (qdn _).mono ?_
 rintro e w1 ⟨rfl,b1⟩
 have hs1:w.heap.size + 2<=w1.heap.size:=by have:=b1.size;simpa using this
 have A0:=Lib.hid (((Arr.new w (V (gl p q n)) 43 rfl).alloc _).keep b1 (by simp <;> omega))
 have A1:=Lib.hid ((Arr.new (w.alloc (.cells (V (gl p q n)).toArray 43)) (V zeros) 41 (g:=w.heap.size + 1) (by simp)).keep b1 (by simp <;> omega))
 have B1:Hid (Below w.heap.size w w1):=Lib.hid ((((Below.refl _ _).alloc (Nat.le_refl _) _).alloc (by simp) _).trans (b1.mono (by simp <;> omega)))
 clear b1
 go_wp2_with (first | (refine wpList_store_row rfl 41 _ _ rfl w1.heap.size (V idl).toArray rfl rfl 41 (V zeros).toArray (Arr.new w1 (V zeros) _ rfl) (qo (jy _)) rfl (zy _) ?_;generalize hw2:(w1.alloc (.cells #[.int .i64 0,.int .i64 0,.int .i64 0,.int .i64 0,.int .i64 0,.int .i64 0,.int .i64 0,.int .i64 0,.int .i64 0,.int .i64 0,.int .i64 0,.int .i64 0,.int .i64 0,.int .i64 0,.int .i64 0,.int .i64 0,.int .i64 0,.int .i64 0,.int .i64 0,.int .i64 0,.int .i64 0,.int .i64 0,.int .i64 0,.int .i64 0] 41)).setRow w1.heap.size (V idl).toArray = w2;have A2:Hid (Arr w2 w1.heap.size (V idl) 41):=Lib.hid (by rw [<-hw2];exact (Arr.new w1 (V zeros) _ rfl).row);have b1:Below w1.heap.size w1 w2:=(by rw [<-hw2];exact arr.below_setRow ((Below.refl _ _).alloc (Nat.le_refl _) _) (Nat.le_refl _) _);have s2:w2.heap.size = w1.heap.size + 1:=(by rw [<-hw2];simp);replace A0:=Lib.hid (A0.out.keep b1 A0.out.lt);replace A1:=Lib.hid (A1.out.keep b1 A1.out.lt);replace B1:=Lib.hid (B1.out.trans (b1.mono B1.out.size));clear hw2 b1;have NF:=Lib.hid (Arr.new w2 (VB (List.replicate 24 false)) 91 rfl);have hcf:(w2.alloc (.cells #[.bool false,.bool false,.bool false,.bool false,.bool false,.bool false,.bool false,.bool false,.bool false,.bool false,.bool false,.bool false,.bool false,.bool false,.bool false,.bool false,.bool false,.bool false,.bool false,.bool false,.bool false,.bool false,.bool false,.bool false] 91)).cell? ⟨w2.heap.size,f,none⟩ = some (.bool false):=NF.out.cell (by unfold VB;rw [List.map_replicate,List.getElem?_replicate,if_pos hf]);have hff:(w2.alloc (.cells #[.bool false,.bool false,.bool false,.bool false,.bool false,.bool false,.bool false,.bool false,.bool false,.bool false,.bool false,.bool false,.bool false,.bool false,.bool false,.bool false,.bool false,.bool false,.bool false,.bool false,.bool false,.bool false,.bool false,.bool false] 91)).frozen? ⟨w2.heap.size,f,none⟩ = false:=NF.out.frozen f) | fail)
 go_loopw [7,8] (fun v i wr=>∃ k:Nat,k<=24/\i = .int .i64 k/\Nr w wr w1.heap.size p q n v (rs p q f k) (nms p q f k)/\k<=(rs p q f k).length) (fun _ i _=>24 - (intOf i).toNat)
 case atStart =>
  refine ⟨0,Nat.zero_le _,rfl,⟨?_,?_,?_,?_,?_,?_,hs1⟩,Nat.zero_le _⟩
  ·exact ⟨rfl,.inr ⟨w1.heap.size + 1 + 1,1,#[.int .i64 (f:Int)],rfl,Nat.le_refl _,Arr.new _ (V [(f:Int)]) _ (by simp;omega),Nat.le_refl _,by unfold maxLen;omega,rfl,rfl⟩⟩
  ·exact (A0.out.alloc _).alloc _
  ·exact (A1.out.alloc _).alloc _
  ·exact (A2.out.alloc _).alloc _
  ·have e:VB (flagsOf [(f:Int)]) = [Value.bool false,Value.bool false,Value.bool false,Value.bool false,Value.bool false,Value.bool false,Value.bool false,Value.bool false,Value.bool false,Value.bool false,Value.bool false,Value.bool false,Value.bool false,Value.bool false,Value.bool false,Value.bool false,Value.bool false,Value.bool false,Value.bool false,Value.bool false,Value.bool false,Value.bool false,Value.bool false,Value.bool false].set f (.bool true):=by rw [<-qlw,<-qnz];rfl
   show Arr _ _ (VB (flagsOf [(f:Int)])) _
   rw [e]
   exact (Arr.new w2 _ _ (g:=w1.heap.size + 1) (by omega)).alloc _
  ·exact (B1.out.alloc B1.out.size _).alloc (by simp;omega) _
 case round =>
  obtain ⟨k,hk,rfl,hm,hle⟩:=hrel
  obtain ⟨wo,rfl⟩:∃ wo:World,wo = wr:=⟨_,rfl⟩
  have IN:=Lib.hid (qgc MX.out MY.out (f:=(f:Int)) (by omega) (by omega) k)
  have hln:(rs p q f k).length<=24:=IN.out.len
  obtain ⟨C,cc,rfl⟩:=za hm.own
  have HR:=Lib.hid hm;clear hm hcf hff NF A0 A1 A2 B1
  by_cases hlt:k < (rs p q f k).length
  ·obtain ⟨z,hz,hzs,hzd⟩:=IN.out.at_ hlt
   have RO:=Row.yu HR.out.own
   obtain ⟨go,oo,uo,rfl,hgo,hgo2,huo,hco,hfo⟩:=RO.at_ hlt
   rw [qpc hzs] at huo
   obtain rfl:=Option.some.inj huo
   have hcn:=HR.out.nm.cell (bg (l:=nms p q f k) (k:=z) (by rw [qif];exact hz))
   have hfn:=HR.out.nm.frozen z
   have HQ:=Lib.hid (HR.out.name z k)
   have hcp:=HQ.out.g.cell (qlx (n:=n) LX.out hz)
   have hcq:=HQ.out.g.cell (qun (n:=n) LX.out LY.out hz)
   have a01:=MX.out z hz;have b01:=MY.out z hz
   have STEP:Hid (rs p q f (k + 1) = mid (rs p q f k) (p.getD z 0) (q.getD z 0) 2):=Lib.hid (by rw [qix p q f hlt hzd];rfl)
   have STEPN:Hid (nms p q f (k + 1) = (nms p q f k).set z (k:Int)):=Lib.hid (by rw [nms,hzd];rfl)
   generalize p.getD z 0 = a at *
   generalize q.getD z 0 = b at *
   obtain ⟨a0,a1⟩:=a01;obtain ⟨b0,b1⟩:=b01
   have LE:Hid (k + 1<=(rs p q f (k + 1)).length):=Lib.hid (qzq p q f hlt)
   have MI:Hid (∀ j,In 24 (mid (rs p q f k) a b j)):=Lib.hid (qsm IN.out a0 a1 b0 b1)
   have hB:=HR.out.hB
   clear hzs hzd huo RO hfo HR
   go_wp2
   go_region
   go_wp2
   go_loopw [7,39] (fun v i wr=>∃ j:Nat,j<=2/\i = .int .i64 j/\Nr w wr w1.heap.size p q n v (mid (rs p q f k) a b j) ((nms p q f k).set z (k:Int))) (fun _ i _=>2 - (intOf i).toNat)
   case atStart=>exact ⟨0,Nat.zero_le _,rfl,HQ.out.drew 1⟩
   case round =>
    obtain ⟨j,hj,rfl,hmid⟩:=hrel
    have hln2:(mid (rs p q f k) a b j).length<=24:=(MI.out j).len
    obtain ⟨C2,cc2,rfl⟩:=za hmid.own
    have HMI:=Lib.hid hmid;clear hmid
    by_cases hj2:j < 2
    ·generalize hq:[a,b].getD j 0 = x
     have MS:=Lib.hid (mid_step (rs p q f k) a b hj2 hq)
     have hix:=qhk a b j hj2 x hq
     obtain ⟨y,rfl,hy⟩:=qrb hj2 hq a0 a1 b0 b1
     clear hq
     have hsz:w1.heap.size + 2<=wr.heap.size:=HMI.out.met.lt
     by_cases hh:(y:Int) ∈ mid (rs p q f k) a b j
     ·have hfl:wr.cell? ⟨w1.heap.size + 1,y,none⟩ = some (.bool true):=qat HMI.out.met hy (by simpa using hh)
      have EQ:Hid (mid (rs p q f k) a b (j + 1) = mid (rs p q f k) a b j):=Lib.hid (by rw [MS.out];unfold add1;rw [if_pos hh])
      clear hh
      go_wp2
      go_roundw
      case rel=>exact ⟨j + 1,by omega,by go_num,by rw [EQ.out];exact HMI.out⟩
      case measure=>simp [intOf];omega
     ·have hfl:wr.cell? ⟨w1.heap.size + 1,y,none⟩ = some (.bool false):=qat HMI.out.met hy (by simpa using hh)
      have hff:=HMI.out.met.frozen y
      have HH:=Lib.hid hh
      have OW:Hid ((wr.setCell ⟨w1.heap.size + 1,y,none⟩ (.bool true)).ownsRow (w1.heap.size + 2) 3 1 (.slice C2 (mid (rs p q f k) a b j).length cc2) (mid (rs p q f k) a b j).length (V (mid (rs p q f k) a b j))):=Lib.hid (by
       refine HMI.out.own.kept (row:=some (w1.heap.size + 1)) ⟨rfl,rfl,rfl,by simp [World.setCell],fun i hi hne=>heap_setCell_other _ _ _ _ (fun e=>hne (by rw [e]))⟩ (.inr (fun e=>HMI.out.ne (k:=w1.heap.size + 1) (by omega) e.symm)))
      clear hh
      generalize hw1:wr.setCell ⟨w1.heap.size + 1,y,none⟩ (.bool true) = wx at OW
      have HW1:=Lib.hid hw1
      have hsz1:w1.heap.size + 2<=wx.heap.size:=by rw [<-hw1];simpa [World.setCell] using hsz
      go_wp2_with (at_builtin;refine yh wx _ _ rfl _ _ 30 rfl (w1.heap.size + 2) 3 i0 _ 8 sqp.underlying30 hi0 hz0 hz1 hz2 rfl _ _ _ rfl OW.out rfl rfl ?c4 (by decide) hsz1 ?_)
      case c4=>omega
      intro v' w' ho hg
      have HN:Hid (Nr w w' w1.heap.size p q n v' (mid (rs p q f k) a b (j + 1)) ((nms p q f k).set z (k:Int))):=Lib.hid (by rw [MS.out];exact HMI.out.next HW1.out.symm ho rfl hg HH.out)
      clear ho hg HMI hw1 hfl hff
      go_wp2
      go_roundw
      case rel=>exact ⟨j + 1,by omega,by go_num,HN.out⟩
      case measure=>simp [intOf];omega
    ·obtain rfl:j = 2:=by omega
     have HN:Hid (Nr w wr w1.heap.size p q n (.slice C2 (mid (rs p q f k) a b 2).length cc2) (rs p q f (k + 1)) (nms p q f (k + 1))):=Lib.hid (by rw [STEP.out,STEPN.out];exact HMI.out)
     go_wp2
     go_roundw
     case rel=>exact ⟨k + 1,by omega,by go_num,HN.out,LE.out⟩
     case measure=>simp [intOf];omega
  ·have e:k = (rs p q f k).length:=by omega
   have R:Hid (rs p q f k = reach p q f):=Lib.hid (qiy LX.out hk (by omega))
   have RN:Hid (nms p q f k = qqi p q f):=Lib.hid (by unfold qqi;rw [<-R.out,<-e])
   have hd:decide (k < (rs p q f k).length) = false:=by simp;omega
   have H2:Hid (Arr wo w1.heap.size (V (qqi p q f)) 41):=Lib.hid (by rw [<-RN.out];exact HR.out.nm)
   have l2:(qqi p q f).length = 24:=qif _ _ _ _
   clear e
   have hB:=HR.out.hB
   go_wp2_with (first | (refine wpList_load_row rfl 41 _ rfl w1.heap.size rfl 41 (V (qqi p q f)).toArray (0,0) _ H2.out sqp.underlying41 rfl (qo l2) ?_) | (refine wpList_store_row rfl 41 _ _ rfl (w.heap.size + 1) (V (qqi p q f)).toArray rfl rfl 41 (V zeros).toArray HR.out.res (qo l2) (by simp [q8,l2,zeros]) (zy _) ?_))
   exact bodyPost_ret (v:=.agg (V (qqi p q f)).toArray) (results_cell_row rfl _ _ (w.heap.size + 1) 41 (V (qqi p q f)).toArray (0,0) _ rfl HR.out.res.row sqp.underlying41 rfl (qo l2)) rfl ⟨rfl,below_setRow HR.out.below (by omega) _⟩
end Go.Proofs.Ytcdclihinmdgiaa.gl

namespace Go.Proofs.Ytcdclihinmdgiaa.gl
open Go.ChangeShapes Go.WideShapes Go.ChangeAt Go.RowKit
open mem ints arr pm permOk permOf inv fns sf
set_option linter.unusedVariables false
set_option maxRecDepth 100000
theorem dw {r:List Int} {w w':World} {v:Value} (h:w'.ownsRow w.heap.size 3 1 v r.length (V r)):∃ P c,v = .slice P r.length c/\Row w' w.heap.size w'.heap.size P r.length (V r)/\r.length<=c:=by
 obtain ⟨P,c,rfl⟩:=za h
 exact ⟨P,c,rfl,Row.yu h,(um h).2⟩
set_option maxHeartbeats 1000000 in
theorem qc0 (v:Value) (r u:List Int) (n:Nat) (f:Int) (hi:Nat) (w:World) (hx:Srd w hi v r u) (s:Sf n r u) (f0:0<=f) (f1:f < n) :
  Calls sqp.prog 47 #[v,.int .i64 f] w (Gives (nm r u f) w):=by
 have lr:=s.lr;have lu:=s.lu
 have hn:=s.r.len
 have HS:=Lib.hid s
 have HF:=Lib.hid (s.q2d f0 f1)
 obtain ⟨P,n1,c,Q,m1,d,rfl,q1,q2,e1,e2,ht,HR⟩:=hx.open
 clear hx s
 go_enter sqp.func47,sqp.ntmps47
 go_wp2_with fail
 refine (qkp P n1 c Q m1 d r u f _ _ _ (HR.out _).1 (HR.out _).2 HS.out.r HS.out.u (by omega) f0 (by omega)).mono ?_
 rintro e w1 ⟨v1,rfl,o1,b1⟩
 obtain ⟨P1,c1,rfl,R1,_⟩:=dw o1
 have B1:=Lib.hid (qoa _ _ b1);clear b1 o1
 have RR:=Lib.hid R1;clear R1
 go_wp2_with fail
 refine (qhn P1 _ c1 (reach r u f) _ _ RR.out.rd (HS.out.rok f0 f1)).mono ?_
 rintro e w2 hg
 have hg2:=qlv B1.out hg
 have HG:Hid (Gives (nm r u f) w e w2):=Lib.hid hg2
 clear hg hg2
 obtain ⟨v2,rfl,ho,hb⟩:=HG.out
 have HO:=Lib.hid ho;have HB:=Lib.hid hb;clear ho hb HG
 go_wp2_with fail
 go_ret
 exact ⟨v2,rfl,HO.out,HB.out⟩
set_option maxHeartbeats 4000000 in
theorem dx (v:Value) (r u:List Int) (A:Option Addr) (a c0:Nat) (ns:List Int) (n:Nat) (hi h2:Nat) (w:World) (hx:Srd w hi v r u) (hy:Rd w h2 A a (V ns)) (s:Sf n r u) (okn:Ok ns) (ln:ns.length = n) :
  Calls sqp.prog 46 #[v,.slice A a c0] w fun e w'=>∃ g,e = .returned g/\Svl w' w.heap.size w'.heap.size g (dz n r ns n) (dz n u ns n)/\Below w.heap.size w w':=by
 have lr:=s.lr;have lu:=s.lu
 have la:ns.length = a:=by simpa [V] using hy.1
 have HX:=Lib.hid hx;have HY:=Lib.hid hy
 have HS:=Lib.hid s;have HN:=Lib.hid okn
 obtain ⟨P,n1,c,Q,m1,d,rfl,q1,q2,e1,e2,ht,HR⟩:=hx.open
 have h2':=hy.2.1
 clear hx hy s okn
 go_enter sqp.func46,sqp.ntmps46
 go_wp2_with fail
 generalize hw1:(w.alloc (.cells #[.slice P n1 c,.slice Q m1 d] 32)).alloc (.cells #[.slice none 0 0,.slice none 0 0] 32) = w1
 have A0:Hid (Arr w1 w.heap.size [.slice P n1 c,.slice Q m1 d] 32):=Lib.hid (by rw [<-hw1];exact (Arr.new w _ _ rfl).alloc _)
 have A1:Hid (Arr w1 (w.heap.size + 1) [.slice none 0 0,.slice none 0 0] 32):=Lib.hid (by rw [<-hw1];exact Arr.new _ _ _ (by simp))
 have B1:Hid (Below w.heap.size w w1):=Lib.hid (by rw [<-hw1];exact ((Below.refl _ _).alloc (Nat.le_refl _) _).alloc (by simp) _)
 have s1:w1.heap.size = w.heap.size + 2:=by rw [<-hw1];simp
 clear hw1
 refine wp_region_held_drew (S:=Hld w.heap.size w1.heap.size w1 [(w.heap.size,[.slice P n1 c,.slice Q m1 d])]) (by kernel_rfl) ((Hld.qa6 A0.out).lower (by omega)) (fun hHeld=>?_)
 have b1:Below w1.heap.size w1 w1.drew:=⟨rfl,rfl,rfl,Nat.le_refl _,fun _ _=>rfl⟩
 generalize w1.drew = w2 at *
 have s2:=b1.size
 replace A1:=Lib.hid (A1.out.keep b1 A1.out.lt)
 replace B1:=Lib.hid (B1.out.trans (b1.mono B1.out.size))
 clear b1 A0
 refine wpAnyH_take (i:=0) (v:=.pointer (some ⟨w.heap.size,0,none⟩)) rfl (by kernel_rfl) (by kernel_rfl) (by kernel_rfl) (fun _ _ _ h=>h) (Or.inl ⟨by rfl,fun w hSw=>by go_simp⟩) hHeld ?_
 refine wpAnyH_take (i:=4) (v:=.pointer (some ⟨w.heap.size,1,none⟩)) rfl (by kernel_rfl) (by kernel_rfl) (by kernel_rfl) (fun _ _ _ h=>h) (Or.inl ⟨by rfl,fun w hSw=>by go_simp⟩) hHeld ?_
 refine wpAnyH_take (i:=1) (v:=.slice P n1 c) rfl (by kernel_rfl) (by kernel_rfl) (by kernel_rfl) (fun _ _ _ h=>h) (Or.inl ⟨by rfl,fun w hSw=>by have:=hSw.fst 0 _ rfl;go_simp⟩) hHeld ?_
 refine wpAnyH_take (i:=5) (v:=.slice Q m1 d) rfl (by kernel_rfl) (by kernel_rfl) (by kernel_rfl) (fun _ _ _ h=>h) (Or.inl ⟨by rfl,fun w hSw=>by have:=hSw.fst 1 _ rfl;go_simp⟩) hHeld ?_
 refine wpAnyH_take (i:=2) (v:=.slice A a c0) rfl (by kernel_rfl) (by kernel_rfl) (by kernel_rfl) (fun _ _ _ h=>h) (Or.inl ⟨by rfl,fun w hSw=>by go_simp⟩) hHeld ?_
 refine wpAnyH_take (i:=6) (v:=.slice A a c0) rfl (by kernel_rfl) (by kernel_rfl) (by kernel_rfl) (fun _ _ _ h=>h) (Or.inl ⟨by rfl,fun w hSw=>by go_simp⟩) hHeld ?_
 refine wpAnyH_ready (rs:=[3]) (by kernel_rfl) (by simp) (AllReadyH.cons rfl (fun K hK=>?_) AllReadyH.nil)
 go_simp
 refine (qht P n1 c A a c0 r ns hi h2 _ (Srd.fst (HX.out.keep (B1.out.mono ht) (Nat.le_refl _))) (HY.out.keep (B1.out.mono h2') (Nat.le_refl _)) HS.out.r HN.out (by omega)).mono ?_
 rintro e w3 ⟨v1,rfl,o1,b1⟩
 obtain ⟨P1,c1,rfl,r1,C1⟩:=dw o1
 have s3:=b1.size
 have R1:=Lib.hid r1;clear r1 o1
 replace A1:=Lib.hid (A1.out.keep b1 A1.out.lt)
 replace B1:=Lib.hid (B1.out.trans (b1.mono B1.out.size))
 go_wp2_with fail
 have hHeld2:=hHeld.later b1 (by omega);clear b1 hHeld
 refine hK.out _ _ hHeld2 (fun hHeld=>?_)
 clear hK K hHeld2
 refine wpAnyH_ready (rs:=[7]) (by kernel_rfl) (by simp) (AllReadyH.cons rfl (fun K hK=>?_) AllReadyH.nil)
 go_simp
 refine (qht Q m1 d A a c0 u ns hi h2 _ (Srd.snd (HX.out.keep (B1.out.mono ht) (Nat.le_refl _))) (HY.out.keep (B1.out.mono h2') (Nat.le_refl _)) HS.out.u HN.out (by omega)).mono ?_
 rintro e w4 ⟨v2,rfl,o2,b1⟩
 obtain ⟨P2,c2,rfl,r2,C2⟩:=dw o2
 have s4:=b1.size
 have R2:=Lib.hid r2;clear r2 o2
 replace A1:=Lib.hid (A1.out.keep b1 A1.out.lt)
 replace R1:=Lib.hid (R1.out.keep b1 R1.out.2.1)
 replace B1:=Lib.hid (B1.out.trans (b1.mono B1.out.size))
 go_wp2_with fail
 have hHeld2:=hHeld.later b1 (by omega);clear b1 hHeld
 refine hK.out _ _ hHeld2 (fun hHeld=>?_)
 clear hK K hHeld2
 refine wpAnyH_ready (rs:=[8]) (by kernel_rfl) (by simp) (AllReadyH.cons rfl (fun K hK=>?_) AllReadyH.nil)
 go_simp
 refine hK.out _ _ hHeld (fun hHeld2=>?_)
 clear hK K hHeld2
 refine wpAnyH_ready (rs:=[9]) (by kernel_rfl) (by simp) (AllReadyH.cons rfl (fun K hK=>?_) AllReadyH.nil)
 obtain rfl:n1 = n:=by omega
 obtain rfl:m1 = n1:=by omega
 have z1:(dz m1 r ns m1).length = m1:=xk _ _ _ _
 have z2:(dz m1 u ns m1).length = m1:=xk _ _ _ _
 rw [z1] at R1 C1;rw [z2] at R2 C2
 refine ql rfl 32 _ _ rfl (w.heap.size + 1) #[.slice P1 m1 c1,.slice P2 m1 c2] rfl (by simp [go_sem,z1,z2]) 32 #[.slice none 0 0,.slice none 0 0] A1.out yj rfl (by simp [Value.oneCell']) ?_
 refine hK.out _ _ (hHeld.other (by omega) (by simp) _) (fun hHeld2=>?_)
 clear hK K hHeld2
 refine wpAnyH_done (by kernel_rfl) ?_ _
 go_wp2_with fail
 refine bodyPost_ret (v:=.agg #[.slice P1 m1 c1,.slice P2 m1 c2]) (results_cell_row rfl _ _ (w.heap.size + 1) 32 #[.slice P1 m1 c1,.slice P2 m1 c2] (0,0) _ rfl A1.out.row sqp.underlying32 rfl yj) rfl ⟨_,rfl,?_,below_setRow B1.out (by omega) _⟩
 have oo:Out w.heap.size w2.heap.size w4 (w4.setRow (w.heap.size + 1) #[.slice P1 m1 c1,.slice P2 m1 c2]):=(Out.refl _ _ _).qvr (by omega) (by omega) _
 exact ⟨P1,m1,c1,P2,m1,c2,w2.heap.size,w3.heap.size,w3.heap.size,w4.heap.size,rfl,R1.out.out oo (.inr (by omega)),R2.out.out oo (.inr (by omega)),C1,C2,by omega,by have:=oo.size;omega,by omega,by have:=oo.size;omega,.inl (Nat.le_refl _),Nat.le_refl _⟩
end Go.Proofs.Ytcdclihinmdgiaa.gl

namespace Go.Proofs.Ytcdclihinmdgiaa.gl
open Go.ChangeShapes Go.WideShapes Go.ChangeAt Go.RowKit
open mem ints arr pm permOk permOf inv fns sf
set_option linter.unusedVariables false
set_option maxRecDepth 100000
def cmpL:List Int->List Int->Int
 | a :: s,b :: t=>if a = b then cmpL s t else if a < b then -1 else 1
 | [],[]=>0
 | [],_ :: _=>-1
 | _ :: _,[]=>1
theorem qlt:∀ (k:Nat) (xs ys:List Int) (s t:Int),Same xs ys k->xs[k]? = some s->ys[k]? = some t->s ≠ t->cmpL xs ys = if s < t then -1 else 1:=by
 intro k
 induction k with
 | zero =>
  intro xs ys s t _ h1 h2 hne
  cases xs with
  | nil=>simp at h1
  | cons x xs =>
   cases ys with
   | nil=>simp at h2
   | cons y ys =>
    simp at h1 h2
    subst h1;subst h2
    simp [cmpL,hne]
 | succ k ih =>
  intro xs ys s t hs h1 h2 hne
  cases xs with
  | nil=>simp at h1
  | cons x xs =>
   cases ys with
   | nil=>simp at h2
   | cons y ys =>
    have e:x = y:=by have:=hs 0 (by omega);simpa using this
    subst e
    simp at h1 h2
    simp only [cmpL,if_pos]
    exact ih xs ys s t (fun j hj=>by have:=hs (j + 1) (by omega);simpa using this) h1 h2 hne
theorem qjy:∀ xs:List Int,cmpL xs xs = 0:=by
 intro xs
 induction xs with
 | nil=>rfl
 | cons x xs ih=>simp [cmpL,ih]
theorem qnh {xs ys:List Int} {n:Nat} (h1:xs.length = n) (h2:ys.length = n) (h:Same xs ys n):xs = ys:=by
 have:=ql0 h1 h2 h
 simpa [eqi] using this
theorem qbf:∀ (xs ys:List Int),xs.length = ys.length->(decide (cmpL xs ys < 0) = y5 xs ys)/\(cmpL xs ys = 0 ↔ xs = ys):=by
 intro xs
 induction xs with
 | nil=>intro ys h;cases ys with
  | nil=>simp [cmpL,y5]
  | cons y ys=>simp at h
 | cons x xs ih =>
  intro ys h
  cases ys with
  | nil=>simp at h
  | cons y ys =>
   by_cases e:x = y
   ·subst e
    rw [show cmpL (x :: xs) (x :: ys) = cmpL xs ys by simp [cmpL],show y5 (x :: xs) (x :: ys) = y5 xs ys by simp [y5]]
    have:=ih ys (by simpa using h)
    exact ⟨this.1,by rw [this.2];simp⟩
   ·rw [show cmpL (x :: xs) (y :: ys) = if x < y then -1 else 1 by simp [cmpL,e],show y5 (x :: xs) (y :: ys) = decide (x < y) by simp [y5,e]]
    by_cases l:x < y
    ·simp [l,e]
    ·simp [l,e]
def qxa (p q p' q':List Int):Int:=if cmpL p p' = 0 then cmpL q q' else cmpL p p'
theorem qni {p q p' q':List Int} (h1:p.length = p'.length) (h2:q.length = q'.length):decide (qxa p q p' q' < 0) = bef (p,q) (p',q'):=by
 unfold qxa bef
 by_cases e:p = p'
 ·subst e
  rw [if_pos (qjy _),if_pos rfl]
  exact (qbf q q' h2).1
 ·rw [if_neg (fun h=>e ((qbf p p' h1).2.1 h)),if_neg e]
  exact (qbf p p' h1).1
theorem qlu (xs:List Int) (h:xs.length<=24):ext xs = xs ++ (ext xs).drop xs.length:=by
 refine qao 24 (qc _) (by simp [qc];omega) fun i hi=>?_
 by_cases hx:i < xs.length
 ·rw [j5 hi,if_pos hx];simp [List.getD,List.getElem?_append_left hx,hx]
 ·simp [List.getD,List.getElem?_append_right (Nat.le_of_not_lt hx),List.getElem?_drop,Nat.add_sub_cancel' (Nat.le_of_not_lt hx)]
set_option maxHeartbeats 1000000 in
theorem qrc (A:Option Addr) (n c:Nat) (B:Option Addr) (m d:Nat) (xs ys:List Int) (h1 h2:Nat) (w:World)
  (hx:Rd w h1 A n (V xs)) (hy:Rd w h2 B m (V ys)) (hn:n<=maxLen) (hnm:n = m) :
  Calls sqp.prog 31 #[.slice A n c,.slice B m d] w fun e w'=>e = .returned (.int .i64 (cmpL xs ys))/\w' = w:=by
 subst hnm
 unfold maxLen at hn
 have lx:xs.length = n:=by simpa [V] using hx.1
 have ly:ys.length = n:=by simpa [V] using hy.1
 have LX:=Lib.hid lx;have LY:=Lib.hid ly;clear lx ly
 have HX:=Lib.hid hx;have HY:=Lib.hid hy;clear hx hy
 go_enter sqp.func31,sqp.ntmps31
 go_wp2
 go_loopw [11] (fun i wr=>∃ k:Nat,k<=n/\i = .int .i64 k/\wr = w/\Same xs ys k) (fun i _=>n - (intOf i).toNat)
 case atStart=>refine ⟨0,Nat.zero_le _,?_,?_,fun j hj=>by omega⟩ <;> first | rfl | trivial
 case round =>
  obtain ⟨k,hk,rfl,rfl,hsame⟩:=hrel
  have HS:=Lib.hid hsame;clear hsame
  by_cases hlt:k < n
  ·obtain ⟨g,off,u,rfl,_,hxu,hcx⟩:=HX.out.at_ hlt
   obtain ⟨g',off',u',rfl,_,hyu,hcy⟩:=HY.out.at_ hlt
   obtain ⟨s,hxs,rfl⟩:=qhb hxu
   obtain ⟨t,hyt,rfl⟩:=qhb hyu
   have HXS:=Lib.hid hxs;have HYT:=Lib.hid hyt;clear hxs hyt hxu hyu
   by_cases hst:s = t
   ·subst hst
    go_wp2
    go_roundw
    case rel=>exact ⟨k + 1,by omega,by go_num,by first | rfl | trivial,HS.out.step HXS.out HYT.out⟩
    case measure=>simp [intOf];omega
   ·have HST:=Lib.hid hst
    by_cases hl:s < t
    ·have HC:Hid (cmpL xs ys = -1):=Lib.hid (by rw [qlt k xs ys s t HS.out HXS.out HYT.out hst,if_pos hl])
     clear hst
     go_wp2
     go_ret
     exact ⟨qdr HC.out.symm,rfl⟩
    ·have HC:Hid (cmpL xs ys = 1):=Lib.hid (by rw [qlt k xs ys s t HS.out HXS.out HYT.out hst,if_neg hl])
     have hg:decide (t < s) = true:=by simp;omega
     have hl':decide (s < t) = false:=by simp;omega
     clear hst hl
     go_wp2
     go_ret
     exact ⟨qdr HC.out.symm,rfl⟩
  ·obtain rfl:k = n:=by omega
   have HC:Hid (cmpL xs ys = 0):=Lib.hid (by rw [qnh LX.out LY.out HS.out];exact qjy _)
   go_wp2
   go_ret
   exact ⟨qdr HC.out.symm,rfl⟩
def orI (x y:Int):Int:=if x = 0 then y else x
set_option maxHeartbeats 1000000 in
theorem q09 (A:Option Addr) (x y:Int) (hi:Nat) (w:World) (hx:Rd w hi A 2 (V [x,y])) :
  Calls sqp.prog 30 #[.slice A 2 2] w fun e w'=>e = .returned (.int .i64 (orI x y))/\w' = w:=by
 have HX:=Lib.hid hx;clear hx
 go_enter sqp.func30,sqp.ntmps30
 go_wp2
 go_loopw [8] (fun i wr=>∃ k:Nat,k<=2/\i = .int .i64 k/\wr = w/\(1<=k->x = 0)/\(2<=k->y = 0)) (fun i _=>2 - (intOf i).toNat)
 case atStart=>refine ⟨0,Nat.zero_le _,?_,?_,fun h=>by omega,fun h=>by omega⟩ <;> first | rfl | trivial
 case round =>
  obtain ⟨k,hk,rfl,rfl,h1,h2⟩:=hrel
  have H1:=Lib.hid h1;have H2:=Lib.hid h2;clear h1 h2
  by_cases hlt:k < 2
  ·obtain ⟨g,off,u,rfl,_,hxu,hcx⟩:=HX.out.at_ hlt
   obtain ⟨s,hxs,rfl⟩:=qhb hxu
   have HXS:=Lib.hid hxs;clear hxs hxu
   by_cases hs:s = 0
   ·have N1:Hid (1<=k + 1->x = 0):=Lib.hid (fun _=>by
     by_cases e:k = 0
     ·subst e;have:=HXS.out;simp at this;omega
     ·exact H1.out (by omega))
    have N2:Hid (2<=k + 1->y = 0):=Lib.hid (fun h=>by
     obtain rfl:k = 1:=by omega
     have:=HXS.out;simp at this;omega)
    subst hs
    go_wp2
    go_roundw
    case rel=>exact ⟨k + 1,by omega,by go_num,by first | rfl | trivial,N1.out,N2.out⟩
    case measure=>simp [intOf];omega
   ·have HR:Hid (orI x y = s):=Lib.hid (by
     unfold orI
     by_cases e:k = 0
     ·subst e;have:=HXS.out;simp at this;subst this;rw [if_neg hs]
     ·obtain rfl:k = 1:=by omega
      have:=HXS.out;simp at this;subst this;rw [if_pos (H1.out (by omega))])
    go_wp2
    go_ret
    exact ⟨qdr HR.out.symm,rfl⟩
  ·obtain rfl:k = 2:=by omega
   have HR:Hid (orI x y = 0):=Lib.hid (by unfold orI;rw [if_pos (H1.out (by omega)),H2.out (by omega)])
   go_wp2
   go_ret
   exact ⟨qdr HR.out.symm,rfl⟩
theorem qnj {w:World} {hi b o:Nat} {l:List Int} (h:w.rangeAt b o (V l)) (hb:b < hi) (hh:hi<=w.heap.size) (hl:l.length = 24):Rd w hi (some ⟨b,o,none⟩) 24 (V l) :=
 ⟨by simpa [V] using hl,hh,fun _=>⟨b,o,rfl,hb,fun j hj=>by
  have e:=bg (l:=l) (k:=j) (by omega)
  rw [e];exact h j _ e⟩⟩
theorem qyl (p q p' q':List Int):orI (cmpL p p') (cmpL q q') = qxa p q p' q':=rfl
set_option maxHeartbeats 4000000 in
theorem qfx (p q p' q':List Int) (n n':Nat) (w:World) (hp:p.length = 24) (hq:q.length = 24) (hp':p'.length = 24) (hq':q'.length = 24) :
  Calls sqp.prog 14 #[.agg (V (gl p q n)).toArray,.agg (V (gl p' q' n')).toArray] w fun e w'=>e = .returned (.int .i64 (qxa p q p' q'))/\Below w.heap.size w w':=by
 go_enter sqp.func14,sqp.ntmps14
 go_wp2_with fail
 generalize hw1:(w.alloc (.cells (V (gl p q n)).toArray 43)).alloc (.cells (V (gl p' q' n')).toArray 43) = w1
 have A0:Hid (Arr w1 w.heap.size (V (gl p q n)) 43):=Lib.hid (by rw [<-hw1];exact (Arr.new w _ _ rfl).alloc _)
 have A1:Hid (Arr w1 (w.heap.size + 1) (V (gl p' q' n')) 43):=Lib.hid (by rw [<-hw1];exact Arr.new _ _ _ (by simp))
 have B1:Hid (Below w.heap.size w w1):=Lib.hid (by rw [<-hw1];exact ((Below.refl _ _).alloc (Nat.le_refl _) _).alloc (by simp) _)
 have s1:w1.heap.size = w.heap.size + 2:=by rw [<-hw1];simp
 clear hw1
 refine wp_region_held_drew (S:=Hld w1.heap.size w1.heap.size w1 [(w.heap.size,V (gl p q n)),(w.heap.size + 1,V (gl p' q' n'))]) (by kernel_rfl) (Hld.q11 A0.out A1.out) (fun hHeld=>?_)
 generalize w1.drew = w2 at *
 clear A0 A1
 refine wpAnyH_take (i:=0) (v:=.pointer (some ⟨w.heap.size,0,none⟩)) rfl (by kernel_rfl) (by kernel_rfl) (by kernel_rfl) (fun _ _ _ h=>h) (Or.inl ⟨by rfl,fun w hSw=>by go_simp⟩) hHeld ?_
 refine wpAnyH_take (i:=2) (v:=.pointer (some ⟨w.heap.size + 1,0,none⟩)) rfl (by kernel_rfl) (by kernel_rfl) (by kernel_rfl) (fun _ _ _ h=>h) (Or.inl ⟨by rfl,fun w hSw=>by go_simp⟩) hHeld ?_
 refine wpAnyH_take (i:=5) (v:=.pointer (some ⟨w.heap.size,24,none⟩)) rfl (by kernel_rfl) (by kernel_rfl) (by kernel_rfl) (fun _ _ _ h=>h) (Or.inl ⟨by rfl,fun w hSw=>by go_simp⟩) hHeld ?_
 refine wpAnyH_take (i:=7) (v:=.pointer (some ⟨w.heap.size + 1,24,none⟩)) rfl (by kernel_rfl) (by kernel_rfl) (by kernel_rfl) (fun _ _ _ h=>h) (Or.inl ⟨by rfl,fun w hSw=>by go_simp⟩) hHeld ?_
 refine wpAnyH_take (i:=1) (v:=.slice (some ⟨w.heap.size,0,none⟩) 24 24) rfl (by kernel_rfl) (by kernel_rfl) (by kernel_rfl) (fun _ _ _ h=>h) (Or.inl ⟨by rfl,fun w hSw=>by go_simp⟩) hHeld ?_
 refine wpAnyH_take (i:=3) (v:=.slice (some ⟨w.heap.size + 1,0,none⟩) 24 24) rfl (by kernel_rfl) (by kernel_rfl) (by kernel_rfl) (fun _ _ _ h=>h) (Or.inl ⟨by rfl,fun w hSw=>by go_simp⟩) hHeld ?_
 refine wpAnyH_take (i:=6) (v:=.slice (some ⟨w.heap.size,24,none⟩) 24 24) rfl (by kernel_rfl) (by kernel_rfl) (by kernel_rfl) (fun _ _ _ h=>h) (Or.inl ⟨by rfl,fun w hSw=>by go_simp⟩) hHeld ?_
 refine wpAnyH_take (i:=8) (v:=.slice (some ⟨w.heap.size + 1,24,none⟩) 24 24) rfl (by kernel_rfl) (by kernel_rfl) (by kernel_rfl) (fun _ _ _ h=>h) (Or.inl ⟨by rfl,fun w hSw=>by go_simp⟩) hHeld ?_
 have s2:w1.heap.size<=w2.heap.size:=hHeld.size
 refine wpAnyH_ready (rs:=[4]) (by kernel_rfl) (by simp) (AllReadyH.cons rfl (fun K hK=>?_) AllReadyH.nil)
 go_simp
 refine (qrc _ _ _ _ _ _ p p' w2.heap.size w2.heap.size _ (qnj (qae hp hHeld.fst) (by omega) (Nat.le_refl _) hp) (qnj (qae hp' hHeld.snd) (by omega) (Nat.le_refl _) hp') (by unfold maxLen;omega) rfl).mono ?_
 rintro e w' ⟨rfl,rfl⟩
 go_wp2_with fail
 refine hK.out _ _ hHeld (fun hHeld2=>?_)
 clear hK K hHeld2
 refine wpAnyH_ready (rs:=[9]) (by kernel_rfl) (by simp) (AllReadyH.cons rfl (fun K hK=>?_) AllReadyH.nil)
 go_simp
 refine (qrc _ _ _ _ _ _ q q' w'.heap.size w'.heap.size _ (qnj (qj4 hp hq hHeld.fst) (by omega) (Nat.le_refl _) hq) (qnj (qj4 hp' hq' hHeld.snd) (by omega) (Nat.le_refl _) hq') (by unfold maxLen;omega) rfl).mono ?_
 rintro e w'' ⟨rfl,rfl⟩
 go_wp2_with fail
 refine hK.out _ _ hHeld (fun hHeld2=>?_)
 clear hK K hHeld2
 refine wpAnyH_ready (rs:=[10]) (by kernel_rfl) (by simp) (AllReadyH.cons rfl (fun K hK=>?_) AllReadyH.nil)
 go_simp
 have b1:Below w''.heap.size w'' (w''.alloc (.cells #[.int .i64 (cmpL p p'),.int .i64 (cmpL q q')] 3)):=(Below.refl _ _).alloc (Nat.le_refl _) _
 have hHeld2:=hHeld.later b1 (Nat.le_refl _)
 have B2:Hid (Below w.heap.size w (w''.alloc (.cells #[.int .i64 (cmpL p p'),.int .i64 (cmpL q q')] 3))):=Lib.hid ((B1.out.trans (hHeld.below.mono (by omega))).trans (b1.mono (by omega)))
 have A3:=Lib.hid (Arr.new w'' (V [cmpL p p',cmpL q q']) 3 rfl)
 refine hK.out _ _ hHeld2 (fun hHeld3=>?_)
 clear hK K hHeld hHeld2 b1
 refine wpAnyH_ready (rs:=[11]) (by kernel_rfl) (by simp) (AllReadyH.cons rfl (fun K hK=>?_) AllReadyH.nil)
 go_simp
 refine (q09 _ (cmpL p p') (cmpL q q') (w''.heap.size + 1) _ ⟨rfl,by simp,fun _=>⟨w''.heap.size,0,rfl,by omega,fun j hj=>by
  have e:=bg (l:=[cmpL p p',cmpL q q']) (k:=j) (by simpa using hj)
  rw [e,Nat.zero_add];exact A3.out.cell e⟩⟩).mono ?_
 rintro e w3 ⟨rfl,rfl⟩
 rw [qyl]
 go_wp2_with fail
 refine hK.out _ _ hHeld3 (fun hHeld2=>?_)
 clear hK K hHeld2
 refine wpAnyH_ready (rs:=[12]) (by kernel_rfl) (by simp) (AllReadyH.cons rfl (fun K hK=>?_) AllReadyH.nil)
 go_simp
 refine hK.out _ _ hHeld3 (fun hHeld2=>?_)
 clear hK K hHeld2
 refine wpAnyH_done (by kernel_rfl) ?_ _
 go_wp2_with fail
 go_ret
 exact ⟨rfl,B2.out⟩
end Go.Proofs.Ytcdclihinmdgiaa.gl

namespace Go.Proofs.Ytcdclihinmdgiaa.gl
open Go.ChangeShapes Go.WideShapes Go.ChangeAt Go.RowKit
open mem ints arr pm permOk permOf inv fns sf
set_option linter.unusedVariables false
set_option maxRecDepth 100000
theorem qbt (xs:List Int) (h:xs.length<=24):(ext xs).take xs.length = xs:=by
 refine qao xs.length (by simp [qc];omega) rfl fun i hi=>?_
 have e:(ext xs).getD i 0 = xs.getD i 0:=by rw [j5 (by omega),if_pos hi]
 rw [<-e]
 simp [List.getD,hi]
end Go.Proofs.Ytcdclihinmdgiaa.gl
