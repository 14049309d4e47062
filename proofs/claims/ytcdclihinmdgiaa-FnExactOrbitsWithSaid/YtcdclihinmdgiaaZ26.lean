import Derived.Test.YtcdclihinmdgiaaZ04
import Derived.Test.YtcdclihinmdgiaaZ25
import Derived.Test.YtcdclihinmdgiaaZ07
namespace Go.Proofs.Ytcdclihinmdgiaa.orb
open Go.ChangeShapes Go.WideShapes Go.ChangeAt Go.RowKit Go.Maps
open mem ints arr pm sf gl
open Go.Proofs.Ytcdclihinmdgiaa.ch (Chn)
set_option linter.unusedVariables false
set_option maxRecDepth 100000
theorem qhs {xs:List Int} (h:Ok xs):Wf (ext xs):=by
 intro a ha
 have h2:=qxb h
 have hl:=qc xs
 obtain ⟨i,hi,e⟩:=List.mem_iff_getElem.1 ha
 have h3:=h2.lo i hi
 have h4:=h2.hi i hi
 have h5:(ext xs).getD i 0 = a:=by rw [List.getD_eq_getElem?_getD,List.getElem?_eq_getElem hi,<-e];rfl
 rw [h5] at h3 h4
 rw [hl] at h4
 simp [Lit.wf,IntKind.min,IntKind.max,IntKind.signed,IntKind.bits]
 omega
theorem q4d {n:Nat} {s:Sur} (h:Sf n s.1 s.2):n<=24:=by have:=h.r.len;rw [h.lr] at this;exact this
theorem q1v {n:Nat} {s:Sur} (h:Sf n s.1 s.2):keyOf sqp.prog 43 (.agg (V (gS s n)).toArray) = some (kG (gS s n)) :=
 qre _ _ n (qc _) (qc _) (qhs h.r) (qhs h.u) (by have:=q4d h;omega)
theorem key_inj {n:Nat} {s t:Sur} (h:Sf n s.1 s.2) (k:Sf n t.1 t.2) (e:kG (gS s n) = kG (gS t n)):s = t:=by
 have hn:=q4d h
 have e2:=q1c (qc _) (qc _) (qhs h.r) (qhs h.u) (by omega) (qc _) (qc _) (qhs k.r) (qhs k.u) (by omega) e
 have e3:(ext s.1 ++ (ext s.2 ++ [(n:Int)])) = (ext t.1 ++ (ext t.2 ++ [(n:Int)])):=by simpa [gl] using e2
 have e4:=List.append_inj e3 (by rw [qc,qc])
 have e5:=List.append_inj e4.2 (by rw [qc,qc])
 exact Prod.ext (qax (by rw [h.lr,k.lr]) (by rw [h.lr];exact hn) e4.1) (qax (by rw [h.lu,k.lu]) (by rw [h.lu];exact hn) e5.1)
section
variable {P:Program}
theorem xw {ops:Array Oper} {rest:List Oper} {o:Oper} {a:Act} {w:World} {Q:Exit->Act->World->Prop} (hgd:o.guard = none) (ty:TypeId) (x:Operand) (ho:o.op = .load ty x)
  (g:Nat) (hx:a.eval x = .pointer (some ⟨g,0,none⟩)) (v:Value) (t:TypeId) (d:TypeDesc) (hc:Arr w g [v] t)
  (hu:P.underlying ty = some d) (hd:(match d with | .struct _ | .array _ _=>true | _=>false) = false)
  (h:wpList P ops Q rest (a.put o.dst v) w):wpList P ops Q (o :: rest) a w:=by
 refine wpList_plain hgd fun _ hK=>?_
 have hl:(loadVar ty ⟨g,0,none⟩).run P w = .ok v w:=by
  have hagg:(isAgg ty).run P w = .ok false w:=by
   unfold isAgg
   rw [Sem.run_bind,run_underlying hu w]
   cases d <;> simp_all
  have hcell:w.cell? ⟨g,0,none⟩ = some v:=hc.cell (k:=0) rfl
  simp [loadVar,Sem.run_bind,hagg,hcell]
 unfold Oper.wp execOp
 simp only [ho,hx,Instr.loadAt,Instr.sureAddr,Sem.run_bind,Sem.run_pure,Result.andThen_ok,hl]
 exact hK _ _ h
end
theorem Qs.keep {w w':World} {B mp fb qb cb c n:Nat} {xs:List Fd} (h:Qs w B mp fb qb cb c n xs) (hg:Below w.heap.size w w'):Qs w' B mp fb qb cb c n xs:=by
 obtain ⟨D,hD,hK⟩:=h.map
 obtain ⟨A,cp,q1,q2,q3⟩:=h.que
 refine ⟨h.sf,h.fnd.keep hg h.fnd.lt,⟨D,hD.kept (row:=none) ⟨hg.os,hg.tape,hg.output,hg.size,fun k hk _=>hg.block k hk⟩ (by simp),hK⟩,⟨A,cp,q1.keep hg q1.lt,qg q2 (fun b hb=>hg.block b (World.ownsRow.lt q2 b hb).2),q3⟩,h.chn.keep hg h.chn.lt,h.cv.keep hg h.cv.lt,h.lo,h.ne⟩
theorem qzl (n:Nat) (xs:List Fd) (x:Fd):fdF n (xs ++ [x]) = fdF n xs ++ V (gS x.1 n):=by simp [fdF]
theorem qse (s:Sur) (n p l:Nat):∀ (j:Nat) v,(V (gS s n))[j]? = some v->(V (fdL s n p l))[j]? = some v:=by
 intro j v h
 have hj:j < (V (gS s n)).length:=(List.getElem?_eq_some_iff.1 h).1
 rw [q8] at hj
 simp only [fdL,V,List.map_append]
 rw [List.getElem?_append_left (by simpa using hj)]
 exact h
theorem mem_keys {n:Nat} {s:Sur} {xs:List Fd} (hs:Sf n s.1 s.2) (hx:∀ x ∈ xs,Sf n x.1.1 x.1.2):kG (gS s n) ∈ xs.map (fdK n) ↔ s ∈ xs.map Prod.fst:=by
 constructor
 ·intro h
  obtain ⟨x,h1,h2⟩:=List.mem_map.1 h
  exact List.mem_map.2 ⟨x,h1,key_inj (hx x h1) hs h2⟩
 ·intro h
  obtain ⟨x,h1,rfl⟩:=List.mem_map.1 h
  exact List.mem_map.2 ⟨x,h1,rfl⟩
structure Qz (w:World) (B mp fb qb cb c n:Nat) (xm xq xc:List Fd) (v:Value):Prop where
 fnd:Arr w fb [.map (some mp)] 99
 map:∃ D:DataW Unit,w.ownsMap sqp.prog 43 (plainElem sqp.prog 4) mp xm.length D/\Kb D (xm.map (fdK n))
 que:Arr w qb [v] 44
 row:w.ownsRow B 43 49 v xq.length (fdF n xq)
 frm:∃ A cp,v = .slice A xq.length cp
 far:∀ b,v.ownBlock = some b->b ≠ fb/\b ≠ qb/\b ≠ cb/\b ≠ mp
 chn:Chn w c 1000 (xc.map (fdV n)) false
 cv:Arr w cb [.chan (some c)] 98
 lo:B<=mp/\B<=fb/\B<=qb/\B<=cb/\c < B
 ne:fb ≠ qb/\fb ≠ cb/\qb ≠ cb/\mp ≠ fb/\mp ≠ qb/\mp ≠ cb
theorem Qs.open_ {w:World} {B mp fb qb cb c n:Nat} {xs:List Fd} (h:Qs w B mp fb qb cb c n xs):∃ v,Qz w B mp fb qb cb c n xs xs xs v:=by
 obtain ⟨A,cp,q1,q2,q3⟩:=h.que
 exact ⟨_,h.fnd,h.map,q1,q2,⟨A,cp,rfl⟩,q3,h.chn,h.cv,h.lo,h.ne⟩
theorem Qz.close_ {w:World} {B mp fb qb cb c n:Nat} {xs:List Fd} {v:Value} (h:Qz w B mp fb qb cb c n xs xs xs v) (hs:∀ x ∈ xs,Sf n x.1.1 x.1.2):Qs w B mp fb qb cb c n xs:=by
 obtain ⟨A,cp,rfl⟩:=h.frm
 exact ⟨hs,h.fnd,h.map,⟨A,cp,h.que,h.row,h.far⟩,h.chn,h.cv,h.lo,h.ne⟩
theorem Qz.mpl {w:World} {B mp fb qb cb c n:Nat} {xm xq xc:List Fd} {v:Value} (h:Qz w B mp fb qb cb c n xm xq xc v):mp < w.heap.size:=by
 obtain ⟨D,hD,_⟩:=h.map
 exact hD.lt
theorem Qz.keep {w w':World} {B mp fb qb cb c n:Nat} {xm xq xc:List Fd} {v:Value} (h:Qz w B mp fb qb cb c n xm xq xc v) (hg:Below w.heap.size w w'):Qz w' B mp fb qb cb c n xm xq xc v:=by
 obtain ⟨D,hD,hK⟩:=h.map
 exact ⟨h.fnd.keep hg h.fnd.lt,⟨D,hD.kept (row:=none) ⟨hg.os,hg.tape,hg.output,hg.size,fun k hk _=>hg.block k hk⟩ (by simp),hK⟩,h.que.keep hg h.que.lt,qg h.row (fun b hb=>hg.block b (World.ownsRow.lt h.row b hb).2),h.frm,h.far,h.chn.keep hg h.chn.lt,h.cv.keep hg h.cv.lt,h.lo,h.ne⟩
theorem mq {w w':World} {row:Option Nat} {g:Nat} {cs:List Value} {t:TypeId} (h:Arr w g cs t) (hg:w.grownBy w' row) (hne:some g ≠ row):Arr w' g cs t:=(hg.block g h.lt hne).trans h
theorem qgb {w w':World} {row:Option Nat} {c cap:Nat} {vs:List Value} {cl:Bool} (h:Chn w c cap vs cl) (hg:w.grownBy w' row) (hne:some c ≠ row):Chn w' c cap vs cl:=by
 have e:=hg.block c h.lt hne
 obtain ⟨a,b,q⟩:=h
 exact ⟨a,b,e.trans q⟩
theorem Qz.put {w w':World} {B mp fb qb cb c n:Nat} {xm xq xc:List Fd} {v:Value} (h:Qz w B mp fb qb cb c n xm xq xc v) (x:Fd) {D:DataW Unit} (hK:Kb D (xm.map (fdK n)))
  (ho:w'.ownsMap sqp.prog 43 (plainElem sqp.prog 4) mp (xm.length + 1) (D.put (fdK n x) (.lit (.bool true)))) (hg:w.grownBy w' (some mp)):Qz w' B mp fb qb cb c n (xm ++ [x]) xq xc v:=by
 have hlo:=h.lo
 have hne:=h.ne
 exact ⟨mq h.fnd hg (by simp;omega),⟨_,by rw [List.length_append];exact ho,by rw [List.map_append];exact hK.put trivial⟩,mq h.que hg (by simp;omega),qg h.row (fun b hb=>hg.block b (World.ownsRow.lt h.row b hb).2 (by have:=(h.far b hb).2.2.2;simp;omega)),h.frm,h.far,qgb h.chn hg (by simp;omega),mq h.cv hg (by simp;omega),h.lo,h.ne⟩
theorem Qz.push {w w':World} {B mp fb qb cb c n:Nat} {xm xq xc:List Fd} {v:Value} (h:Qz w B mp fb qb cb c n xm xq xc v) (x:Fd) {g cp:Nat}
  (ho:w'.ownsRow B 43 49 (.slice (some ⟨g,0,none⟩) (xq.length + 1) cp) (xq.length + 1) (fdF n xq ++ V (gS x.1 n))) (hg:w.grownBy w' v.ownBlock) (hat:v.ownBlock = some g\/g = w.heap.size) :
  Qz (w'.setRow qb #[.slice (some ⟨g,0,none⟩) (xq.length + 1) cp]) B mp fb qb cb c n xm (xq ++ [x]) xc (.slice (some ⟨g,0,none⟩) (xq.length + 1) cp):=by
 obtain ⟨D,hD,hK⟩:=h.map
 have l1:=h.fnd.lt
 have l2:=h.que.lt
 have l3:=h.cv.lt
 have l4:=hD.lt
 have hgn:g ≠ fb/\g ≠ qb/\g ≠ cb/\g ≠ mp:=by
  rcases hat with e | e
  ·exact h.far g e
  ·subst e;omega
 have hlo:=h.lo
 have hne:=h.ne
 have nf:∀ k,v.ownBlock = some k->B<=k:=fun k hk=>(World.ownsRow.lt h.row k hk).1
 have M:w'.ownsMap sqp.prog 43 (plainElem sqp.prog 4) mp xm.length D:=hD.kept hg (fun e=>(h.far mp e.symm).2.2.2 rfl)
 have Q:Arr w' qb [v] 44:=mq h.que hg (fun e=>(h.far qb e.symm).2.1 rfl)
 have C:Chn w' c 1000 (xc.map (fdV n)) false:=qgb h.chn hg (fun e=>by have:=nf c e.symm;omega)
 refine ⟨(mq h.fnd hg (fun e=>(h.far fb e.symm).1 rfl)).qh hne.1,⟨D,?_,hK⟩,Q.row (cs':=[_]),?_,⟨_,cp,by rw [List.length_append];rfl⟩,fun b hb=>?_,?_,(mq h.cv hg (fun e=>(h.far cb e.symm).2.2.1 rfl)).qh (by omega),h.lo,h.ne⟩
 ·obtain ⟨es,cl,e1,e2⟩:=M
  exact ⟨es,cl,(setRow_other _ _ _ _ (by omega)).trans e1,e2⟩
 ·rw [List.length_append,qzl]
  exact qg ho (fun b hb=>setRow_other _ _ _ _ (by have e:g = b:=(by simpa [Value.ownBlock] using hb);omega))
 ·have e:g = b:=by simpa [Value.ownBlock] using hb
  subst e;exact hgn
 ·obtain ⟨a,b,e⟩:=C
  exact ⟨a,b,(setRow_other _ _ _ _ (by omega)).trans e⟩
theorem Qz.sent {w w':World} {B mp fb qb cb c n:Nat} {xm xq xc:List Fd} {v:Value} (h:Qz w B mp fb qb cb c n xm xq xc v) (x:Fd) (hc:Chn w' c 1000 (xc.map (fdV n) ++ [fdV n x]) false) (ho:Out c (c + 1) w w') :
  Qz w' B mp fb qb cb c n xm xq (xc ++ [x]) v:=by
 obtain ⟨D,hD,hK⟩:=h.map
 have hlo:=h.lo
 have l1:=h.fnd.lt
 have l2:=h.que.lt
 have l3:=h.cv.lt
 have l4:=hD.lt
 have bk:∀ k,B<=k->k < w.heap.size->w'.heap[k]? = w.heap[k]?:=fun k h1 h2=>ho.block k h2 (by omega)
 refine ⟨(bk fb (by omega) l1).trans h.fnd,⟨D,?_,hK⟩,(bk qb (by omega) l2).trans h.que,qg h.row (fun b hb=>bk b (World.ownsRow.lt h.row b hb).1 (World.ownsRow.lt h.row b hb).2),h.frm,h.far,by rw [List.map_append];exact hc,(bk cb (by omega) l3).trans h.cv,h.lo,h.ne⟩
 obtain ⟨es,cl,e1,e2⟩:=hD
 exact ⟨es,cl,(bk mp (by omega) l4).trans e1,e2⟩
theorem Frc.qvh {B c:Nat} {w w':World} {row:Option Nat} (h:w.grownBy w' row) (hr:∀ b,row = some b->B<=b) (hB:B<=w.heap.size):Frc B c w w' :=
 ⟨h.os,h.tape,h.output,h.size,fun k h1 _=>h.block k (by omega) (fun e=>by have:=hr k e.symm;omega)⟩
theorem Frc.q1w {B c:Nat} (w:World) {g:Nat} (hg:B<=g) (cs:Array Value):Frc B c w (w.setRow g cs):=Frc.of_below (below_setRow (Below.refl B w) hg cs)
theorem qn8 {L:List Int} (h:L.length = 51):(sqp.prog.info? 55).map (·.size) = some (V L).toArray.size:=by
 obtain ⟨i,hi,hz,hs,hb⟩:=info_parts qn7
 rw [hi]
 simp [hs,q8,h]
set_option maxHeartbeats 800000 in
theorem qiv (B mp fb qb cb c n:Nat) (xs:List Fd) (s:Sur) (p l:Nat) (w:World) (hq:Qs w B mp fb qb cb c n xs) (hs:Sf n s.1 s.2) (hx:xs.length < 900) (hB:B<=w.heap.size) :
  Calls sqp.prog 59 #[.agg (V (fdL s n p l)).toArray,.pointer (some ⟨fb,0,none⟩),.pointer (some ⟨qb,0,none⟩),.pointer (some ⟨cb,0,none⟩)] w fun e w' =>
   e = .returned (.tuple #[])/\Qs w' B mp fb qb cb c n (if s ∈ xs.map Prod.fst then xs else xs ++ [(s,p,l)])/\Frc B c w w':=by
 have HS:Hid (Sf n s.1 s.2):=Lib.hid hs
 have HX:Hid (xs.length < 900):=Lib.hid hx;clear hx
 have MK:Hid (kG (gS s n) ∈ xs.map (fdK n) ↔ s ∈ xs.map Prod.fst):=Lib.hid (mem_keys hs hq.sf)
 have KF:Hid (keyOf sqp.prog 43 (.agg (V (gS s n)).toArray) = some (kG (gS s n))):=Lib.hid (q1v hs)
 clear hs
 have L51:=qb0 s n p l
 have L49:=qaq s n
 have PF:Hid (∀ (j:Nat) v,(V (gS s n))[j]? = some v->(V (fdL s n p l))[j]? = some v):=Lib.hid (qse s n p l)
 have HQ:=Lib.hid hq;clear hq
 generalize hZ:(if s ∈ xs.map Prod.fst then xs else xs ++ [(s,p,l)]) = Z
 have ZX:=Lib.hid hZ;clear hZ
 go_enter sqp.func59,sqp.ntmps59
 simp only [sq.qll,sq.qfq,List.map_toArray,List.map_cons,List.map_nil]
 have b1:Below w.heap.size w (w.alloc (.cells (V (fdL s n p l)).toArray 55)):=(Below.refl _ _).alloc (Nat.le_refl _) _
 have Q1:Hid (Qs (w.alloc (.cells (V (fdL s n p l)).toArray 55)) B mp fb qb cb c n xs):=Lib.hid (HQ.out.keep b1)
 have F1:Hid (Frc B c w (w.alloc (.cells (V (fdL s n p l)).toArray 55))):=Lib.hid (Frc.of_below (b1.mono hB))
 have X1:Hid (Arr (w.alloc (.cells (V (fdL s n p l)).toArray 55)) w.heap.size (V (fdL s n p l)) 55):=Lib.hid (Arr.new w _ _ rfl)
 have PX:Hid (∀ (j:Nat) v,(V (gS s n))[j]? = some v->(w.alloc (.cells (V (fdL s n p l)).toArray 55)).cell? ⟨w.heap.size,0 + j,none⟩ = some v):=Lib.hid (fun j v h=>by rw [Nat.zero_add];exact X1.out.cell (PF.out j v h))
 obtain ⟨v0,hz0⟩:=HQ.out.open_
 have SF:=HQ.out.sf
 have Z1:Hid (Qz (w.alloc (.cells (V (fdL s n p l)).toArray 55)) B mp fb qb cb c n xs xs xs v0):=Lib.hid (hz0.keep b1)
 have W0:Hid (∀ b,v0.ownBlock = some b->b < w.heap.size):=Lib.hid (fun b hb=>(World.ownsRow.lt hz0.row b hb).2)
 have hlm:=hz0.mpl
 have hlq:=hz0.que.lt
 have hlo:=hz0.lo
 have hs1:(w.alloc (.cells (V (fdL s n p l)).toArray 55)).heap.size = w.heap.size + 1:=by simp
 have PR:Hid (∀ W,Arr W w.heap.size (V (fdL s n p l)) 55->∀ (j:Nat) v,(V (gS s n))[j]? = some v->W.cell? ⟨w.heap.size,0 + j,none⟩ = some v):=Lib.hid (fun W hW j v h=>by rw [Nat.zero_add];exact hW.cell (PF.out j v h))
 clear HQ b1 hz0
 by_cases hm:s ∈ xs.map Prod.fst
 ·have HM:=Lib.hid hm
  obtain ⟨D,hD,hKb⟩:=Q1.out.map
  have HD:=Lib.hid hD
  have HT:Hid (D.atKey (kG (gS s n)) (.lit (.bool false)) = .lit (.bool true)):=Lib.hid (hKb.yes _ (MK.out.2 hm))
  clear hD hKb hm
  go_wp2_with (first | (refine xw rfl 99 _ rfl fb rfl _ _ _ Q1.out.fnd sqp.underlying99 rfl ?_) | (refine qz rfl 43 _ rfl w.heap.size 0 rfl (V (gS s n)) _ PX.out sqp.underlying43 rfl (zu L49) ?_) | (refine dh _ rfl _ _ 99 rfl 43 4 q27 sqp.underlying99 sqp.underlying4 (by kernel_rfl) mp _ D rfl HD.out _ _ rfl KF.out true HT.out ?_) | fail)
  go_end0
  exact ⟨rfl,by rw [<-ZX.out,if_pos HM.out];exact Q1.out,F1.out⟩
 ·have HM:=Lib.hid hm
  obtain ⟨D,hD,hKb⟩:=Z1.out.map
  have HD:=Lib.hid hD
  have HK:=Lib.hid hKb
  have HT:Hid (D.atKey (kG (gS s n)) (.lit (.bool false)) = .lit (.bool false)):=Lib.hid (hKb.no _ (fun e=>hm (MK.out.1 e)))
  have IK:Hid (WideAt.IsKeyLit (kG (gS s n))):=Lib.hid trivial
  clear hD hKb hm
  have hx9:=HX.out
  obtain ⟨i0,hi0,hz0,hz1,hz2⟩:=info_parts qxz
  go_wp2_with (first | (refine xw rfl 99 _ rfl fb rfl _ _ _ Q1.out.fnd sqp.underlying99 rfl ?_) | (refine qz rfl 43 _ rfl w.heap.size 0 rfl (V (gS s n)) _ PX.out sqp.underlying43 rfl (zu L49) ?_) | (refine dh _ rfl _ _ 99 rfl 43 4 q27 sqp.underlying99 sqp.underlying4 (by kernel_rfl) mp _ D rfl HD.out _ _ rfl KF.out false HT.out ?_) | (at_mapUpdate;refine wpList_mapUpdate_own _ rfl _ _ _ 99 rfl 43 4 q27 sqp.underlying99 (plainElem sqp.prog 4) mp xs.length D rfl HD.out (by unfold maxLen;omega) _ _ (kG (gS s n)) rfl rfl KF.out (.lit (.bool true)) [] (plainElem_bool sqp.underlying4 true) ?_;intro w2 hown2 hgrow2;have X2:Hid (Arr w2 w.heap.size (V (fdL s n p l)) 55):=Lib.hid (mq X1.out hgrow2 (by simp;omega));have Z2:Hid (Qz w2 B mp fb qb cb c n (xs ++ [(s,p,l)]) xs xs v0):=Lib.hid (Z1.out.put (s,p,l) HK.out hown2 hgrow2);have F2:Hid (Frc B c w w2):=Lib.hid (F1.out.trans ⟨hgrow2.os,hgrow2.tape,hgrow2.output,hgrow2.size,fun k h1 _=>hgrow2.block k (by omega) (by simp;omega)⟩);have P2:=Lib.hid (PR.out w2 X2.out);have hs2:=hgrow2.size;clear hown2 hgrow2) | (refine xw rfl 44 _ rfl qb rfl _ _ _ Z2.out.que sqp.underlying44 rfl ?_) | (refine qz rfl 43 _ rfl w.heap.size 0 rfl (V (gS s n)) _ P2.out sqp.underlying43 rfl (zu L49) ?_) | (refine qck rfl _ rfl (gS s n) L49 rfl ?_) | (at_builtin;refine wpList_append_lies (w2.alloc (.cells (V (gS s n)).toArray 43)) rfl _ _ 44 rfl B 43 i0 _ 49 392 sqp.underlying44 hi0 hz0 hz1 hz2 rfl (by decide) v0 xs.length (fdF n xs) rfl (Z2.out.row.alloc _) ⟨w2.heap.size,0,none⟩ 1 1 (V (gS s n)) rfl (by simp [q8,L49]) ?hn ?h1 (by decide) ?c4 ?c5 ?c6 _ rfl ?_) | fail)
  case h1=>intro q hq;obtain ⟨z,_,rfl⟩:=List.mem_map.1 hq;rfl
  case c4=>unfold maxLen;omega
  case c5=>omega
  case c6=>first | omega | (simp;omega)
  intro g7 cap7 w7 ho hg hb hlt7
  have Z3:=Z2.out.keep ((Below.refl w2.heap.size w2).alloc (Nat.le_refl _) (.cells (V (gS s n)).toArray 43))
  have Z4:=Lib.hid (Z3.push (s,p,l) ho hg (hb.imp id (fun e=>by simp [e])))
  have Q7:Hid (Arr w7 qb [v0] 44):=Lib.hid (mq Z3.que hg (fun e=>(Z2.out.far qb e.symm).2.1 rfl))
  have X7:Hid (Arr w7 w.heap.size (V (fdL s n p l)) 55):=Lib.hid (mq (X2.out.alloc _) hg (fun e=>by have:=W0.out _ e.symm;omega))
  have F7:Hid (Frc B c w w7):=Lib.hid ((F2.out.trans (Frc.of_below ((Below.refl B w2).alloc (by omega) _))).trans (Frc.qvh hg (fun b e=>(World.ownsRow.lt Z2.out.row b e).1) (by simp;omega)))
  clear Z3 ho hg hb hlt7 Q1 Z1 F1 X1 PX HD HK HT Z2 F2 X2 P2
  go_wp2_with (first | (refine wpList_store_oneTo rfl 44 _ _ rfl rfl qb (.slice (some ⟨g7,0,none⟩) (xs.length + 1) cap7) rfl rfl rfl _ _ Q7.out (by kernel_rfl) ?_;have X8:Hid (Arr (w7.setRow qb #[.slice (some ⟨g7,0,none⟩) (xs.length + 1) cap7]) w.heap.size (V (fdL s n p l)) 55):=Lib.hid (X7.out.qh (by omega));have F8:Hid (Frc B c w (w7.setRow qb #[.slice (some ⟨g7,0,none⟩) (xs.length + 1) cap7])):=Lib.hid (F7.out.trans (Frc.q1w w7 (by omega) _));generalize w7.setRow qb #[.slice (some ⟨g7,0,none⟩) (xs.length + 1) cap7] = w8 at *) | (refine xw rfl 98 _ rfl cb rfl _ _ _ Z4.out.cv sqp.underlying98 rfl ?_) | (refine wpList_load_row rfl 55 _ rfl w.heap.size rfl 55 (V (fdL s n p l)).toArray (0,0) _ X8.out sqp.underlying55 rfl (qn8 L51) ?_) | fail)
  refine (qzk c (xs.map (fdV n)) s n p l (.chan (some c)) w8 Z4.out.chn (by rw [List.length_map];omega)).mono ?_
  rintro e w9 ⟨rfl,hc9,ho9⟩
  have Z9:=Lib.hid (Z4.out.sent (s,p,l) hc9 ho9)
  have F9:=Lib.hid (F8.out.trans (Frc.qkk ho9 (by have:=F8.out.size;omega)))
  clear hc9 ho9 Z4 F8
  go_wp2_with fail
  go_end0
  refine ⟨rfl,?_,F9.out⟩
  rw [<-ZX.out,if_neg HM.out]
  refine Z9.out.close_ (fun x hx=>?_)
  rcases List.mem_append.1 hx with h | h
  ·exact SF x h
  ·obtain rfl:x = (s,p,l):=by simpa using h
   exact HS.out
end Go.Proofs.Ytcdclihinmdgiaa.orb

namespace Go.Proofs.Ytcdclihinmdgiaa.orb
open Go.ChangeShapes Go.WideShapes Go.ChangeAt Go.RowKit Go.Maps
open mem ints arr pm sf gl
open Go.Proofs.Ytcdclihinmdgiaa.ch (Chn)
set_option linter.unusedVariables false
set_option maxRecDepth 100000
theorem d9 {P:Program} {ops:Array Oper} {rest:List Oper} {o:Oper} {a:Act} {w:World} {Q:Exit->Act->World->Prop} (hw:Region.wanted o (yielded ops a.tmps) = true) (ty:TypeId) (x:Operand) (ho:o.op = .load ty x)
  (g:Nat) (hx:a.eval x = .pointer (some ⟨g,0,none⟩)) (v:Value) (t:TypeId) (d:TypeDesc) (hc:Arr w g [v] t)
  (hu:P.underlying ty = some d) (hd:(match d with | .struct _ | .array _ _=>true | _=>false) = false)
  (h:wpList P ops Q rest (a.put o.dst v) w):wpList P ops Q (o :: rest) a w:=by
 refine wpList_step fun K hK=>?_
 rw [if_pos hw]
 have hl:(loadVar ty ⟨g,0,none⟩).run P w = .ok v w:=by
  have hagg:(isAgg ty).run P w = .ok false w:=by
   unfold isAgg
   rw [Sem.run_bind,run_underlying hu w]
   cases d <;> simp_all
  have hcell:w.cell? ⟨g,0,none⟩ = some v:=hc.cell (k:=0) rfl
  simp [loadVar,Sem.run_bind,hagg,hcell]
 unfold Oper.wp execOp
 simp only [ho,hx,Instr.loadAt,Instr.sureAddr,Sem.run_bind,Sem.run_pure,Result.andThen_ok,hl]
 exact hK _ _ h
def qpk (k:Nat) (c:UInt8) (l:Nat) (xs:List Fd):List Fd :=
 if stp c ((xs.map Prod.fst).getD k ([],[])) ∈ xs.map Prod.fst then xs else xs ++ [(stp c ((xs.map Prod.fst).getD k ([],[])),k,l)]
def qsf (k:Nat) (xs:List Fd):List Fd:=qpk k 83 2 (qpk k 84 0 xs)
def qiw:Nat->Nat->List Fd->List Fd
 | 0,_,xs=>xs
 | f + 1,k,xs=>if k < xs.length/\xs.length<=120 then qiw f (k + 1) (qsf k xs) else xs
def finds (s:Sur):List Fd:=qiw 122 0 [(cn s,0,0)]
def fdB:Nat->UInt8
 | 0=>84
 | _=>83
structure Fq (xs:List Fd) (q:LW):Prop where
 fst:q.1 = xs.map Prod.fst
 len:q.2.length = xs.length
 zero:∀ w,q.2[0]? = some w->w = []
 word:∀ (k:Nat) (x:Fd),xs[k]? = some x->0 < k->x.2.1 < k/\q.2.getD k [] = q.2.getD x.2.1 [] ++ [fdB x.2.2]
theorem Fq.start (s:Sur):Fq [(cn s,0,0)] ([cn s],[[]]) :=
 ⟨rfl,rfl,fun w h=>by simpa using h.symm,fun k x h hk=>by
  cases k with
  | zero=>omega
  | succ k=>simp at h⟩
theorem Fq.add {xs:List Fd} {q:LW} (h:Fq xs q) {k:Nat} (hk:k < xs.length) (l:Nat):Fq (qpk k (fdB l) l xs) (qli k (fdB l) q):=by
 have hl:=h.len
 unfold qpk qli
 rw [h.fst]
 split
 ·exact h
 ·refine ⟨by simp,by simp [hl],fun w hw=>?_,fun j x hx hj=>?_⟩
  ·rw [List.getElem?_append_left (by omega)] at hw
   exact h.zero w hw
  ·simp only
   rw [List.getElem?_append] at hx
   split at hx
   ·rename_i hj2
    obtain ⟨a1,a2⟩:=h.word j x hx hj
    refine ⟨a1,?_⟩
    simp only [List.getD_eq_getElem?_getD] at a2 ⊢
    rw [List.getElem?_append_left (by omega),List.getElem?_append_left (by omega),a2]
   ·rename_i hj2
    have ej:j - xs.length = 0:=by
     rcases Nat.eq_zero_or_pos (j - xs.length) with e | e
     ·exact e
     ·rw [List.getElem?_eq_none (by simp;omega)] at hx;cases hx
    rw [ej] at hx
    simp at hx
    subst hx
    refine ⟨by simp only;omega,?_⟩
    simp only [List.getD_eq_getElem?_getD]
    rw [List.getElem?_append_right (by omega),List.getElem?_append_left (by omega),show j - q.2.length = 0 by omega]
    rfl
theorem qfh (k:Nat) (c:UInt8) (l:Nat) (xs:List Fd):xs.length<=(qpk k c l xs).length/\(qpk k c l xs).length<=xs.length + 1:=by
 unfold qpk
 split
 ·omega
 ·simp
theorem qfi (k:Nat) (xs:List Fd):xs.length<=(qsf k xs).length/\(qsf k xs).length<=xs.length + 2:=by
 have h1:=qfh k 84 0 xs
 have h2:=qfh k 83 2 (qpk k 84 0 xs)
 unfold qsf
 omega
theorem Fq.two {xs:List Fd} {q:LW} (h:Fq xs q) {k:Nat} (hk:k < xs.length):Fq (qsf k xs) (two k q) :=
 (h.add hk 0).add (by have:=qfh k (fdB 0) 0 xs;omega) 2
theorem qzm {f k:Nat} {xs:List Fd} {q:LW} (h:Fq xs q) (hk:k<=xs.length) (hs:xs.length<=120) (hf:122<=f + k) :
  (120 < (qiw f k xs).length/\qlj f k q = none)\/((qiw f k xs).length<=120/\∃ q',qlj f k q = some q'/\Fq (qiw f k xs) q'):=by
 induction f generalizing k xs q with
 | zero=>omega
 | succ f ih =>
  have e1:q.1.length = xs.length:=by rw [h.fst];simp
  rw [qiw,qlj,e1]
  by_cases hk2:k < xs.length
  ·have h2:=h.two hk2
   have e2:(two k q).1.length = (qsf k xs).length:=by rw [h2.fst];simp
   rw [if_pos ⟨hk2,hs⟩,if_pos hk2,e2]
   have tl:=qfi k xs
   by_cases hb:120 < (qsf k xs).length
   ·rw [if_pos hb]
    left
    refine ⟨?_,rfl⟩
    cases f with
    | zero=>exact hb
    | succ f=>rw [qiw,if_neg (by omega)];exact hb
   ·rw [if_neg hb]
    exact ih h2 (by omega) (by omega) (by omega)
  ·rw [if_neg (by omega),if_neg hk2]
   right
   exact ⟨hs,q,rfl,h⟩
theorem qkl (s:Sur):(120 < (finds s).length/\orb s = none)\/((finds s).length<=120/\∃ q,orb s = some q/\Fq (finds s) q) :=
 qzm (Fq.start s) (by simp) (by simp) (by omega)
theorem qpl {f k:Nat} {xs:List Fd} (h:xs.length<=122):(qiw f k xs).length<=122:=by
 induction f generalizing k xs with
 | zero=>exact h
 | succ f ih =>
  rw [qiw]
  split
  ·rename_i h2
   exact ih (by have:=qfi k xs;omega)
  ·exact h
theorem ql7 (s:Sur):(finds s).length<=122:=qpl (by simp)
theorem qvi {p q:List Int} (hp:p.length = 24) (hq:q.length = 24) (n:Nat) :
  sqp.prog.built 55 [(0,.agg (V (gl p q n)).toArray)] = some (V (gl p q n ++ [0,0])).toArray:=by
 obtain ⟨a0,a1,a2,a3,a4,a5,a6,a7,a8,a9,b0,b1,b2,b3,b4,b5,b6,b7,b8,b9,c0,c1,c2,c3,rfl⟩:=qho hp
 obtain ⟨a0',a1',a2',a3',a4',a5',a6',a7',a8',a9',b0',b1',b2',b3',b4',b5',b6',b7',b8',b9',c0',c1',c2',c3',rfl⟩:=qho hq
 kernel_rfl
theorem qvj {p q:List Int} (hp:p.length = 24) (hq:q.length = 24) (n k l:Nat) :
  sqp.prog.built 55 [(0,.agg (V (gl p q n)).toArray),(1,.int .i64 k),(2,.int .i64 l)] = some (V (gl p q n ++ [(k:Int),(l:Int)])).toArray:=by
 obtain ⟨a0,a1,a2,a3,a4,a5,a6,a7,a8,a9,b0,b1,b2,b3,b4,b5,b6,b7,b8,b9,c0,c1,c2,c3,rfl⟩:=qho hp
 obtain ⟨a0',a1',a2',a3',a4',a5',a6',a7',a8',a9',b0',b1',b2',b3',b4',b5',b6',b7',b8',b9',c0',c1',c2',c3',rfl⟩:=qho hq
 kernel_rfl
theorem qsg (s:Sur) (n:Nat):sqp.prog.built 55 [(0,.agg (V (gS s n)).toArray)] = some (V (fdL s n 0 0)).toArray:=qvi (qc s.1) (qc s.2) n
theorem qkm (s:Sur) (n k l:Nat):sqp.prog.built 55 [(0,.agg (V (gS s n)).toArray),(1,.int .i64 k),(2,.int .i64 l)] = some (V (fdL s n k l)).toArray:=qvj (qc s.1) (qc s.2) n k l
theorem qvk:sqp.prog.built 101 [(0,.int .i64 0),(1,.int .i64 2)] = some #[.int .i64 0,.int .i64 2]:=by kernel_rfl
theorem qn9 (l:Nat) (hl:l = 0\/l = 2) (s:Sur) (n:Nat) (A:Option Addr) (hi:Nat) (w:World) (hL:Rd w hi A 1 (V [(l:Int)])) (hh:hi<=w.heap.size) (hs:Sf n s.1 s.2) :
  Calls sqp.prog 60 #[.agg (V (gS s n)).toArray,.slice A 1 1] w fun e w'=>e = .returned (.agg (V (gS (qa2 (fdB l) s) n)).toArray)/\Below w.heap.size w w':=by
 have h1:la.runN [(l:Int)] = qa2 (fdB l):=by
  funext s
  rcases hl with rfl | rfl <;> simp [la.runN,la.qj9,qa2,fdB]
 rw [<-h1]
 exact la.qrt s.1 s.2 n A 1 1 [(l:Int)] hi w hL hh (by simp;omega) hs (by omega)
structure Q4 (w w4:World) (c n:Nat) (s:Sur):Prop where
 own:Arr w4 w.heap.size (V (gS s n)) 43
 cv:Arr w4 (w.heap.size + 1) [.chan (some c)] 98
 fnd:Arr w4 (w.heap.size + 1 + 1 + 1) [.map (some (w.heap.size + 1 + 1))] 99
 map:w4.ownsMap sqp.prog 43 (plainElem (H:=Unit) sqp.prog 4) (w.heap.size + 1 + 1) 0 (.map [])
 size:w4.heap.size = w.heap.size + 4
 bel:Below w.heap.size w w4
theorem qvl (w:World) (c n:Nat) (s:Sur):Q4 w (((((w.alloc (.cells (V (gS s n)).toArray 43)).alloc (.cells #[.chan (some c)] 98)).alloc (.map #[] 0)).alloc (.cells #[.map none] 99)).setRow (w.heap.size + 1 + 1 + 1) #[.map (some (w.heap.size + 1 + 1))]) c n s:=by
 have s1:(w.alloc (.cells (V (gS s n)).toArray 43)).heap.size = w.heap.size + 1:=by simp
 have b1:Below w.heap.size w (w.alloc (.cells (V (gS s n)).toArray 43)):=(Below.refl _ _).alloc (Nat.le_refl _) _
 have a1:Arr (w.alloc (.cells (V (gS s n)).toArray 43)) w.heap.size (V (gS s n)) 43:=Arr.new w _ _ rfl
 generalize w.alloc (.cells (V (gS s n)).toArray 43) = w1 at *
 have s2:(w1.alloc (.cells #[.chan (some c)] 98)).heap.size = w.heap.size + 2:=by simp [s1]
 have b2:Below w.heap.size w (w1.alloc (.cells #[.chan (some c)] 98)):=b1.alloc (by omega) _
 have a2:Arr (w1.alloc (.cells #[.chan (some c)] 98)) w.heap.size (V (gS s n)) 43:=a1.alloc _
 have c2:Arr (w1.alloc (.cells #[.chan (some c)] 98)) (w.heap.size + 1) [.chan (some c)] 98:=Arr.new w1 [.chan (some c)] _ s1.symm
 generalize w1.alloc (.cells #[.chan (some c)] 98) = w2 at *
 have s3:(w2.alloc (.map #[] 0)).heap.size = w.heap.size + 3:=by simp [s2]
 have b3:Below w.heap.size w (w2.alloc (.map #[] 0)):=b2.alloc (by omega) _
 have a3:Arr (w2.alloc (.map #[] 0)) w.heap.size (V (gS s n)) 43:=a2.alloc _
 have c3:Arr (w2.alloc (.map #[] 0)) (w.heap.size + 1) [.chan (some c)] 98:=c2.alloc _
 have m3:(w2.alloc (.map #[] 0)).ownsMap sqp.prog 43 (plainElem (H:=Unit) sqp.prog 4) (w.heap.size + 1 + 1) 0 (.map []):=by
  rw [show w.heap.size + 1 + 1 = w2.heap.size by omega]
  exact World.ownsMap_made _ _ _ _
 generalize w2.alloc (.map #[] 0) = w3 at *
 have s4:(w3.alloc (.cells #[.map none] 99)).heap.size = w.heap.size + 4:=by simp [s3]
 have b4:Below w.heap.size w (w3.alloc (.cells #[.map none] 99)):=b3.alloc (by omega) _
 have f4:Arr (w3.alloc (.cells #[.map none] 99)) (w.heap.size + 1 + 1 + 1) [.map none] 99:=Arr.new w3 [.map none] _ s3.symm
 have a4:=a3.alloc (.cells #[.map none] 99)
 have c4:=c3.alloc (.cells #[.map none] 99)
 have m4:=m3.alloc (.cells #[.map none] 99)
 generalize w3.alloc (.cells #[.map none] 99) = w4 at *
 refine ⟨a4.qh (by omega),c4.qh (by omega),f4.row (cs':=[_]),?_,?_,below_setRow b4 (by omega) _⟩
 ·obtain ⟨es,cl,e1,e2⟩:=m4
  exact ⟨es,cl,(setRow_other _ _ _ _ (by omega)).trans e1,e2⟩
 ·have:=(below_setRow (Below.refl w4.heap.size w4) (g:=w4.heap.size) (Nat.le_refl _) #[]).size
  rw [<-s4]
  simp [World.setRow]
theorem Q4.open_ {w w4:World} {c n:Nat} {s:Sur} (h:Q4 w w4 c n s) (hc:Chn w c 1000 [] false) :
  Qs (w4.alloc (.cells #[.slice none 0 0] 44)) w.heap.size (w.heap.size + 1 + 1) (w.heap.size + 1 + 1 + 1) w4.heap.size (w.heap.size + 1) c n []:=by
 have hs:=h.size
 have hl:=hc.lt
 exact ⟨fun x hx=>by simp at hx,h.fnd.alloc _,⟨_,h.map.alloc _,Kb.empty⟩,⟨none,0,Arr.new w4 [.slice none 0 0] _ rfl,⟨rfl,.inl ⟨rfl,rfl⟩⟩,fun b hb=>by simp [Value.ownBlock] at hb⟩,(hc.keep h.bel hl).keep ((Below.refl w4.heap.size w4).alloc (Nat.le_refl _) _) (by omega),h.cv.alloc _,⟨by omega,by omega,by omega,by omega,hl⟩,⟨by omega,by omega,by omega,by omega,by omega,by omega⟩⟩
theorem qkn {k:Nat} {xs:List Fd} (hk:k<=121) (h:¬ (k < xs.length/\xs.length<=120)):qiw (122 - k) k xs = xs:=by
 rw [show 122 - k = (121 - k) + 1 by omega,qiw,if_neg h]
theorem qsh {k:Nat} {xs:List Fd} (hk:k<=121) (h:k < xs.length/\xs.length<=120):qiw (122 - k) k xs = qiw (122 - (k + 1)) (k + 1) (qsf k xs):=by
 rw [show 122 - k = (121 - k) + 1 by omega,qiw,if_pos h,show 121 - k = 122 - (k + 1) by omega]
theorem qe6 {P:Program} {o:Oper} {a:Act} {w:World} (ty:TypeId) (x:Operand) (ho:o.op = .load ty x)
  (g:Nat) (hx:a.eval x = .pointer (some ⟨g,0,none⟩)) (v:Value) (t:TypeId) (d:TypeDesc) (hc:Arr w g [v] t)
  (hu:P.underlying ty = some d) (hd:(match d with | .struct _ | .array _ _=>true | _=>false) = false):(execOp a.eval o).run P w = .ok (.value v) w:=by
 have hl:(loadVar ty ⟨g,0,none⟩).run P w = .ok v w:=by
  have hagg:(isAgg ty).run P w = .ok false w:=by
   unfold isAgg
   rw [Sem.run_bind,run_underlying hu w]
   cases d <;> simp_all
  have hcell:w.cell? ⟨g,0,none⟩ = some v:=hc.cell (k:=0) rfl
  simp [loadVar,Sem.run_bind,hagg,hcell]
 unfold execOp
 simp only [ho,hx,Instr.loadAt,Instr.sureAddr,Sem.run_bind,Sem.run_pure,Result.andThen_ok,hl]
theorem q1x {n:Nat} {xs:List Fd} {k:Nat} {x:Fd} (hx:xs[k]? = some x):∀ (j:Nat) v,(V (gS x.1 n))[j]? = some v->(fdF n xs)[k * 49 + j]? = some v:=by
 induction xs generalizing k with
 | nil=>simp at hx
 | cons y ys ih =>
  intro j v hj
  have hl:j < 49:=by have:=(List.getElem?_eq_some_iff.1 hj).1;rwa [q8,qaq] at this
  have e:fdF n (y :: ys) = V (gS y.1 n) ++ fdF n ys:=rfl
  have ly:(V (gS y.1 n)).length = 49:=by rw [q8,qaq]
  rw [e]
  cases k with
  | zero =>
   obtain rfl:y = x:=by simpa using hx
   rw [List.getElem?_append_left (by omega),Nat.zero_mul,Nat.zero_add]
   exact hj
  | succ k =>
   rw [List.getElem?_append_right (by rw [ly];omega),ly,show (k + 1) * 49 + j - 49 = k * 49 + j by omega]
   exact ih (by simpa using hx) j v hj
theorem qxm {w:World} {B n:Nat} {xs:List Fd} {A:Option Addr} {cp k:Nat} (h:w.ownsRow B 43 49 (.slice A xs.length cp) xs.length (fdF n xs)) (hk:k < xs.length) :
  ∃ g,A = some ⟨g,0,none⟩/\∀ x,xs[k]? = some x->∀ (j:Nat) v,(V (gS x.1 n))[j]? = some v->w.cell? ⟨g,k * 49 + j,none⟩ = some v:=by
 rcases h.2 with ⟨_,q⟩ | ⟨g,cap,cur,q1,q2,q3,q4,q5,q6,q7⟩
 ·omega
 ·injection q1 with e1 e2 e3
  refine ⟨g,e1,fun x hx j v hj=>?_⟩
  have h1:=q1x (n:=n) hx j v hj
  rw [cell_of_row w g _ cur _ _ q3]
  have h2:(List.take (xs.length * 49) cur.toList)[k * 49 + j]? = some v:=by rw [q7];exact h1
  rw [List.getElem?_take] at h2
  split at h2
  ·simpa using h2
  ·cases h2
theorem qsi {k:Nat} {c:UInt8} {l:Nat} {ys:List Fd} {x:Fd} (hx:ys[k]? = some x) :
  (if cn (qa2 c x.1) ∈ ys.map Prod.fst then ys else ys ++ [(cn (qa2 c x.1),k,l)]) = qpk k c l ys:=by
 have e:(ys.map Prod.fst).getD k ([],[]) = x.1:=by simp [hx]
 unfold qpk stp
 rw [e]
theorem ix0 (w:World):Sem.run sqp.prog (Instr.index 101 (.agg #[.int .i64 0,.int .i64 2]) (.int .i64 0)) w = .ok (.int .i64 0) w:=by kernel_rfl
theorem ix1 (w:World):Sem.run sqp.prog (Instr.index 101 (.agg #[.int .i64 0,.int .i64 2]) (.int .i64 1)) w = .ok (.int .i64 2) w:=by kernel_rfl
set_option maxHeartbeats 4000000 in
theorem qpm (s:Sur) (n c:Nat) (w:World) (hs:Sf n s.1 s.2) (hc:Chn w c 1000 [] false) :
  Calls sqp.prog 36 #[.agg (V (gS s n)).toArray,.chan (some c)] w fun e w' =>
   e = .returned (.tuple #[])/\Chn w' c 1000 ((finds s).map (fdV n)) true/\Frc w.heap.size c w w':=by
 have HS:=Lib.hid hs;clear hs
 have HC:=Lib.hid hc;clear hc
 have L49:=qaq s n
 go_enter sqp.func36,sqp.ntmps36
 generalize hC:Code.region 13 #[{ dst:=some 46,op:=Op.load 98 (Operand.tmp 3),type:=98,pos:="l06_orbit.go:43",after:=#[],guard:=none },{ dst:=none,op:=Op.call { callee:=Callee.builtin Builtin.close,args:=#[Operand.tmp 46],argTypes:=#[98] },type:=0,pos:="l06_orbit.go:43",after:=#[{ on:=0,ground:=Ground.data }],guard:=none }] false = C13
 have hmm:=@run_makeMap sqp.prog
 have SZ:Hid (∀ a b d,Arr ((((w.alloc (.cells (V (gS s n)).toArray 43)).alloc a).alloc b).alloc (.cells #[d] 99)) (w.heap.size + 1 + 1 + 1) [d] 99):=Lib.hid (fun a b d=>Arr.new _ [d] _ (by simp))
 have Q0:=Lib.hid (qvl w c n s)
 have X5:Hid (∀ w4,Q4 w w4 c n s->Arr (w4.alloc (.cells #[.slice none 0 0] 44)) w.heap.size (V (gS s n)) 43):=Lib.hid (fun w4 h=>h.own.alloc _)
 go_wp2_with (first | (refine wpList_store_oneTo rfl 99 _ _ rfl rfl (w.heap.size + 1 + 1 + 1) (.map (some (w.heap.size + 1 + 1))) rfl rfl rfl _ _ (SZ.out _ _ _) (by kernel_rfl) ?_;generalize (((((w.alloc (.cells (V (gS s n)).toArray 43)).alloc (.cells #[.chan (some c)] 98)).alloc (.map #[] 0)).alloc (.cells #[.map none] 99)).setRow (w.heap.size + 1 + 1 + 1) #[.map (some (w.heap.size + 1 + 1))]) = w4 at *;clear SZ) | (refine wpList_load_row rfl 43 _ rfl w.heap.size rfl 43 (V (gS s n)).toArray (0,0) _ (X5.out _ Q0.out) sqp.underlying43 rfl (zu L49) ?_) | fail)
 have hq4:=Q0.out.size
 have s5:(w4.alloc (.cells #[.slice none 0 0] 44)).heap.size = w.heap.size + 5:=by simp [hq4]
 have U5:=Lib.hid (Q0.out.open_ HC.out)
 have G5:Hid (Frc w.heap.size c w (w4.alloc (.cells #[.slice none 0 0] 44))):=Lib.hid (Frc.of_below (Q0.out.bel.alloc (by omega) _))
 generalize w4.heap.size = qb at *
 subst hq4
 generalize w4.alloc (.cells #[.slice none 0 0] 44) = w5 at *
 refine (qm3 s n _ HS.out).mono ?_
 rintro e w6 ⟨rfl,b6⟩
 have s6:=b6.size
 have U6:=Lib.hid (U5.out.keep b6)
 have G6:=Lib.hid (G5.out.trans (Frc.of_below (b6.mono (by omega))))
 clear U5 G5 Q0 X5 b6
 have BF:=Lib.hid (qsg (cn s) n)
 have L51:=qb0 (cn s) n 0 0
 have MT:=Lib.hid (qiv w.heap.size (w.heap.size + 1 + 1) (w.heap.size + 1 + 1 + 1) (w.heap.size + 4) (w.heap.size + 1) c n [] (cn s) 0 0 w6 U6.out (qkf HS.out) (by simp) (by omega))
 generalize fdL (cn s) n 0 0 = LF at *
 generalize gS (cn s) n = G1 at *
 go_wp2_with (first | (refine gl.wpList_build rfl 55 _ rfl [(0,.agg (V G1).toArray)] rfl (V LF).toArray BF.out ?_) | fail)
 refine MT.out.mono ?_
 rintro e w7 ⟨rfl,u7,g7⟩
 have U7:Hid (Qs w7 w.heap.size (w.heap.size + 1 + 1) (w.heap.size + 1 + 1 + 1) (w.heap.size + 4) (w.heap.size + 1) c n [(cn s,0,0)]):=Lib.hid (by simpa using u7)
 have G7:=Lib.hid (G6.out.trans g7)
 clear U6 G6 u7 g7 MT BF
 go_wp2_with fail
 have FN:Hid (finds s = qiw 122 0 [(cn s,0,0)]):=Lib.hid rfl
 go_loopw [7] (fun v7 wr=>∃ (k:Nat) (xs:List Fd),v7 = .int .i64 k/\Qs wr w.heap.size (w.heap.size + 1 + 1) (w.heap.size + 1 + 1 + 1) (w.heap.size + 4) (w.heap.size + 1) c n xs/\Frc w.heap.size c w wr/\k<=xs.length/\xs.length<=122/\k<=121/\finds s = qiw (122 - k) k xs) (fun v7 _=>122 - (intOf v7).toNat)
 case atStart=>exact ⟨0,_,by go_num,U7.out,G7.out,by simp,by simp,by omega,FN.out⟩
 case round =>
  obtain ⟨k,xs,rfl,hU,hG,h1,h2,h3,h4⟩:=hrel
  have U:=Lib.hid hU
  have G:=Lib.hid hG
  have HF:=Lib.hid h4
  clear hU hG h4 U7 G7 FN
  obtain ⟨A0,cp0,q1,q2,q3⟩:=U.out.que
  have QV:=Lib.hid q1
  have QR:=Lib.hid q2
  clear q1 q2 q3
  by_cases hk:k < xs.length
  ·by_cases hl:xs.length<=120
   ·have HN:Hid (finds s = qiw (122 - (k + 1)) (k + 1) (qsf k xs)):=Lib.hid (by rw [HF.out,qsh h3 ⟨hk,hl⟩])
    clear HF
    go_wp2_with (first | (refine xw rfl 44 _ rfl (w.heap.size + 4) rfl _ _ _ QV.out sqp.underlying44 rfl ?_) | (refine d9 (by rfl) 44 _ rfl (w.heap.size + 4) rfl _ _ _ QV.out sqp.underlying44 rfl ?_) | (refine gl.wpList_build rfl 101 _ rfl [(0,.int .i64 0),(1,.int .i64 2)] rfl #[.int .i64 0,.int .i64 2] qvk ?_) | fail)
    go_loopw [29] (fun v29 wq=>∃ (i:Nat) (ys:List Fd),v29 = .int .i64 i/\i<=2/\ys = (if i = 0 then xs else if i = 1 then qpk k 84 0 xs else qsf k xs)/\Qs wq w.heap.size (w.heap.size + 1 + 1) (w.heap.size + 1 + 1 + 1) (w.heap.size + 4) (w.heap.size + 1) c n ys/\Frc w.heap.size c w wq) (fun v29 _=>2 - (intOf v29).toNat)
    case atStart=>exact ⟨0,xs,by go_num,by omega,rfl,U.out,G.out⟩
    case round =>
     obtain ⟨i,ys,rfl,hi2,hys,hU',hG'⟩:=hrel
     have hal:=qfh k 84 0 xs
     have hix0:=ix0
     have hix1:=ix1
     by_cases hi0:i = 0
     ·subst hi0
      rw [if_pos rfl] at hys
      subst hys
      have hky:=hk
      obtain ⟨x,hx⟩:∃ x,ys[k]? = some x:=⟨_,List.getElem?_eq_getElem hky⟩
      have U1:=Lib.hid hU'
      have W1:=Lib.hid hG'
      clear hU' hG'
      obtain ⟨A1,cp1,q1,q2,q3⟩:=U1.out.que
      obtain ⟨g,rfl,hat⟩:=qxm q2 hky
      have QV1:=Lib.hid q1
      have SX:=Lib.hid (U1.out.sf x (List.mem_of_getElem? hx))
      have PX:=Lib.hid (hat x hx)
      clear q1 q2 q3 hat
      have L49x:=qaq x.1 n
      go_wp2_with (first | (refine xw rfl 44 _ rfl (w.heap.size + 4) rfl _ _ _ QV1.out sqp.underlying44 rfl ?_) | (refine qz rfl 43 _ rfl g (k * 49) rfl (V (gS x.1 n)) _ PX.out sqp.underlying43 rfl (zu L49x) ?_) | fail)
      have RD:=Lib.hid (qxy wr 0 wr.heap.size rfl)
      have b1:Below wr.heap.size wr (wr.alloc (.cells #[.int .i64 0] 53)):=(Below.refl _ _).alloc (Nat.le_refl _) _
      have sz1:(wr.alloc (.cells #[.int .i64 0] 53)).heap.size = wr.heap.size + 1:=by simp
      generalize wr.alloc (.cells #[.int .i64 0] 53) = w8 at *
      have hwr:=W1.out.size
      have SL:Hid (Sf n (qa2 (fdB 0) x.1).1 (qa2 (fdB 0) x.1).2):=Lib.hid (qep (R:=x.1.1) (U:=x.1.2) SX.out _)
      refine (qn9 0 (by omega) x.1 n _ _ w8 (by simpa using RD.out) (by omega) SX.out).mono ?_
      rintro e w9 ⟨rfl,b2⟩
      have sz2:=b2.size
      go_wp2_with fail
      refine (qm3 (qa2 (fdB 0) x.1) n w9 SL.out).mono ?_
      rintro e w10 ⟨rfl,b3⟩
      have sz3:=b3.size
      have b4:=(b1.trans (b2.mono (by omega))).trans (b3.mono (by omega))
      have U10:=Lib.hid (U1.out.keep b4)
      have W10:=Lib.hid (W1.out.trans (Frc.of_below (b4.mono (by omega))))
      clear U1 W1 b1 b2 b3 b4 RD PX QV1
      have BF:=Lib.hid (qkm (cn (qa2 (fdB 0) x.1)) n k 0)
      have MT:=qiv w.heap.size (w.heap.size + 1 + 1) (w.heap.size + 1 + 1 + 1) (w.heap.size + 4) (w.heap.size + 1) c n ys (cn (qa2 (fdB 0) x.1)) k 0 w10 U10.out (qkf SL.out) (by omega) (by omega)
      rw [qsi hx] at MT
      have MT:=Lib.hid MT
      generalize fdL (cn (qa2 (fdB 0) x.1)) n k 0 = LF1 at *
      generalize gS (cn (qa2 (fdB 0) x.1)) n = G2 at *
      go_wp2_with (first | (refine gl.wpList_build rfl 55 _ rfl [(0,.agg (V G2).toArray),(1,.int .i64 (k:Int)),(2,.int .i64 0)] rfl (V LF1).toArray BF.out ?_) | fail)
      refine MT.out.mono ?_
      rintro e w11 ⟨rfl,u11,g11⟩
      have U11:=Lib.hid u11
      have W11:=Lib.hid (W10.out.trans g11)
      clear u11 g11 U10 W10 MT BF
      go_wp2_with fail
      go_roundw
      case rel=>exact ⟨1,qpk k 84 0 ys,by go_num,by omega,rfl,U11.out,W11.out⟩
      case measure=>simp [intOf]
     ·by_cases hi1:i = 1
      ·subst hi1
       rw [if_neg (by omega),if_pos rfl] at hys
       have hky:k < ys.length:=by rw [hys];omega
       have hyl:ys.length<=121:=by rw [hys];omega
       obtain ⟨x,hx⟩:∃ x,ys[k]? = some x:=⟨_,List.getElem?_eq_getElem hky⟩
       have U1:=Lib.hid hU'
       have W1:=Lib.hid hG'
       clear hU' hG'
       obtain ⟨A1,cp1,q1,q2,q3⟩:=U1.out.que
       obtain ⟨g,rfl,hat⟩:=qxm q2 hky
       have QV1:=Lib.hid q1
       have SX:=Lib.hid (U1.out.sf x (List.mem_of_getElem? hx))
       have PX:=Lib.hid (hat x hx)
       clear q1 q2 q3 hat
       have L49x:=qaq x.1 n
       go_wp2_with (first | (refine xw rfl 44 _ rfl (w.heap.size + 4) rfl _ _ _ QV1.out sqp.underlying44 rfl ?_) | (refine qz rfl 43 _ rfl g (k * 49) rfl (V (gS x.1 n)) _ PX.out sqp.underlying43 rfl (zu L49x) ?_) | fail)
       have RD:=Lib.hid (qxy wr 2 wr.heap.size rfl)
       have b1:Below wr.heap.size wr (wr.alloc (.cells #[.int .i64 2] 53)):=(Below.refl _ _).alloc (Nat.le_refl _) _
       have sz1:(wr.alloc (.cells #[.int .i64 2] 53)).heap.size = wr.heap.size + 1:=by simp
       generalize wr.alloc (.cells #[.int .i64 2] 53) = w8 at *
       have hwr:=W1.out.size
       have SL:Hid (Sf n (qa2 (fdB 2) x.1).1 (qa2 (fdB 2) x.1).2):=Lib.hid (qep (R:=x.1.1) (U:=x.1.2) SX.out _)
       refine (qn9 2 (by omega) x.1 n _ _ w8 (by simpa using RD.out) (by omega) SX.out).mono ?_
       rintro e w9 ⟨rfl,b2⟩
       have sz2:=b2.size
       go_wp2_with fail
       refine (qm3 (qa2 (fdB 2) x.1) n w9 SL.out).mono ?_
       rintro e w10 ⟨rfl,b3⟩
       have sz3:=b3.size
       have b4:=(b1.trans (b2.mono (by omega))).trans (b3.mono (by omega))
       have U10:=Lib.hid (U1.out.keep b4)
       have W10:=Lib.hid (W1.out.trans (Frc.of_below (b4.mono (by omega))))
       clear U1 W1 b1 b2 b3 b4 RD PX QV1
       have BF:=Lib.hid (qkm (cn (qa2 (fdB 2) x.1)) n k 2)
       have MT:=qiv w.heap.size (w.heap.size + 1 + 1) (w.heap.size + 1 + 1 + 1) (w.heap.size + 4) (w.heap.size + 1) c n ys (cn (qa2 (fdB 2) x.1)) k 2 w10 U10.out (qkf SL.out) (by omega) (by omega)
       rw [qsi hx] at MT
       have MT:=Lib.hid MT
       generalize fdL (cn (qa2 (fdB 2) x.1)) n k 2 = LF1 at *
       generalize gS (cn (qa2 (fdB 2) x.1)) n = G2 at *
       go_wp2_with (first | (refine gl.wpList_build rfl 55 _ rfl [(0,.agg (V G2).toArray),(1,.int .i64 (k:Int)),(2,.int .i64 2)] rfl (V LF1).toArray BF.out ?_) | fail)
       refine MT.out.mono ?_
       rintro e w11 ⟨rfl,u11,g11⟩
       have U11:=Lib.hid u11
       have W11:=Lib.hid (W10.out.trans g11)
       clear u11 g11 U10 W10 MT BF
       go_wp2_with fail
       go_roundw
       case rel=>exact ⟨2,qpk k (fdB 2) 2 ys,by go_num,by omega,by rw [hys];rfl,U11.out,W11.out⟩
       case measure=>simp [intOf]
      ·obtain rfl:i = 2:=by omega
       rw [if_neg hi0,if_neg hi1] at hys
       have htl:=qfi k xs
       go_wp2_with fail
       go_roundw
       case rel=>exact ⟨k + 1,ys,by go_num,hU',hG',by rw [hys];omega,by rw [hys];omega,by omega,by rw [hys];exact HN.out⟩
       case measure=>simp [intOf];omega
   ·go_wp2_with (first | (refine xw rfl 44 _ rfl (w.heap.size + 4) rfl _ _ _ QV.out sqp.underlying44 rfl ?_) | (refine d9 (by rfl) 44 _ rfl (w.heap.size + 4) rfl _ _ _ QV.out sqp.underlying44 rfl ?_) | fail)
    subst hC
    refine ch.region rfl ?_
    simp only [List.size_toArray,List.length_cons,List.length_nil,Nat.reduceAdd,Nat.zero_add,List.range,List.range.loop]
    refine ch.Rw.plain (v:=.chan (some c)) rfl rfl (qe6 98 (.tmp 3) rfl (w.heap.size + 1) rfl (.chan (some c)) _ _ U.out.cv sqp.underlying98 rfl) ?_
    refine ch.Rw.qw8 (c:=c) rfl rfl rfl rfl U.out.chn (fun w9 C9 o9=>?_)
    refine ch.Rw.nil ?_
    go_end0
    exact ⟨rfl,by rw [HF.out,qkn h3 (by omega)];exact C9,G.out.trans (Frc.qkk o9 (by have:=G.out.size;omega))⟩
  ·go_wp2_with (first | (refine xw rfl 44 _ rfl (w.heap.size + 4) rfl _ _ _ QV.out sqp.underlying44 rfl ?_) | (refine d9 (by rfl) 44 _ rfl (w.heap.size + 4) rfl _ _ _ QV.out sqp.underlying44 rfl ?_) | fail)
   subst hC
   refine ch.region rfl ?_
   simp only [List.size_toArray,List.length_cons,List.length_nil,Nat.reduceAdd,Nat.zero_add,List.range,List.range.loop]
   refine ch.Rw.plain (v:=.chan (some c)) rfl rfl (qe6 98 (.tmp 3) rfl (w.heap.size + 1) rfl (.chan (some c)) _ _ U.out.cv sqp.underlying98 rfl) ?_
   refine ch.Rw.qw8 (c:=c) rfl rfl rfl rfl U.out.chn (fun w9 C9 o9=>?_)
   refine ch.Rw.nil ?_
   go_end0
   exact ⟨rfl,by rw [HF.out,qkn h3 (by omega)];exact C9,G.out.trans (Frc.qkk o9 (by have:=G.out.size;omega))⟩
end Go.Proofs.Ytcdclihinmdgiaa.orb
