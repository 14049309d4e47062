import Derived.Test.YtcdclihinmdgiaaZ04
import Derived.Test.YtcdclihinmdgiaaZ20
import Derived.Test.YtcdclihinmdgiaaZ14
import Derived.Test.YtcdclihinmdgiaaZ22
import Derived.Great.BuildSlice
import Derived.Great.FillDense
import Derived.Deep.RegionLaw
import Derived.Test.YtcdclihinmdgiaaZ06
import Derived.Test.YtcdclihinmdgiaaZ23
import Derived.Test.YtcdclihinmdgiaaZ08
import Derived.Test.YtcdclihinmdgiaaZ16
import Derived.Test.YtcdclihinmdgiaaZ11
import Derived.Test.YtcdclihinmdgiaaZ07
namespace Go.Proofs.Ytcdclihinmdgiaa.lst
open Go.ChangeShapes Go.WideShapes Go.ChangeAt Go.RowKit
open mem ints arr pm sf gl orb Go.Proofs.Ytcdclihinmdgiaa.lp
set_option linter.unusedVariables false
set_option maxRecDepth 100000
def swp (p:List Int) (i l:Nat):List Int:=(p.set i (p.getD l 0)).set l (p.getD i 0)
theorem qq0 (p:List Int) (i l:Nat):(swp p i l).length = p.length:=by simp [swp]
def swN (p:List Int) (l:Nat):Nat->List (List Int)
 | 0=>[]
 | i + 1=>swN p l i ++ [swp p i l]
theorem qlr (p:List Int) (l:Nat):∀ i,(swN p l i).length = i
 | 0=>rfl
 | i + 1=>by simp [swN,qlr p l i]
def swR (L:List (List Int)) (l:Nat):List (List Int):=L.flatMap fun p=>swN p l (l + 1)
def prI:Nat->List (List Int)
 | 0=>[idl]
 | k + 1=>swR (prI k) k
theorem qug {L:List (List Int)} {l a:Nat} {p:List Int} (h:L[a]? = some p):swR (L.take (a + 1)) l = swR (L.take a) l ++ swN p l (l + 1):=by
 rw [List.take_add_one,h]
 simp [swR]
theorem qq1 (l:Nat):∀ L:List (List Int),(swR L l).length = L.length * (l + 1)
 | []=>by simp [swR]
 | p :: L=>by
  have:=qq1 l L
  unfold swR at this ⊢
  rw [List.flatMap_cons,List.length_append,this,qlr,List.length_cons,Nat.add_mul]
  omega
theorem qyc:∀ k:Fin 5,(prI k.val).length<=24/\((prI k.val).all fun p=>decide (p.length = 24)) = true:=by decide +kernel
theorem qw5 {k:Nat} (h:k<=4):(prI k).length<=24/\∀ p ∈ prI k,p.length = 24:=by
 obtain ⟨a,b⟩:=qyc ⟨k,by omega⟩
 exact ⟨a,fun p hp=>by simpa using List.all_eq_true.1 b p hp⟩
def flP (L:List (List Int)):List Value:=L.flatMap V
theorem qq2:∀ {L:List (List Int)} {k:Nat} {p:List Int},(∀ q ∈ L,q.length = 24)->L[k]? = some p->∀ (j:Nat) v,(V p)[j]? = some v->(flP L)[k * 24 + j]? = some v
 | [],k,s,_,h,_,_,_=>by simp at h
 | x :: L,0,s,_,h,j,v,hj=>by
  obtain rfl:x = s:=by simpa using h
  unfold flP
  rw [List.flatMap_cons,Nat.zero_mul,Nat.zero_add,List.getElem?_append_left (List.getElem?_eq_some_iff.1 hj).1]
  exact hj
 | x :: L,k + 1,s,hl,h,j,v,hj=>by
  have:=qq2 (L:=L) (k:=k) (fun q hq=>hl q (List.mem_cons_of_mem _ hq)) (by simpa using h) j v hj
  have lx:(V x).length = 24:=by rw [q8];exact hl x (List.mem_cons_self ..)
  unfold flP at this ⊢
  rw [List.flatMap_cons,List.getElem?_append_right (by rw [lx];omega),lx,show (k + 1) * 24 + j - 24 = k * 24 + j by omega]
  exact this
theorem quh (L:List (List Int)) (p:List Int):flP (L ++ [p]) = flP L ++ V p:=by simp [flP]
section
variable {P:Program}
theorem zi {ops:Array Oper} {rest:List Oper} {o:Oper} {a:Act} {w:World} {Q:Exit->Act->World->Prop} (hgd:o.guard = none) (T:TypeId) (p x:Operand) (ho:o.op = .store T p x) (cs:List Value) (zs:Array Value)
  (hp:a.eval p = .pointer (some ⟨w.heap.size,0,none⟩)) (hx:a.eval x = .agg cs.toArray) (hs:(P.info? T).map (·.size) = some cs.toArray.size) (hz:zs.size = cs.toArray.size) (h1:cs.toArray.all (·.oneCell') = true)
  (h:∀ W,Below w.heap.size w W->Arr W w.heap.size cs T->W.heap.size = w.heap.size + 1->wpList P ops Q rest (a.put o.dst undef) W):wpList P ops Q (o :: rest) a (w.alloc (.cells zs T)):=by
 refine wpList_store_row hgd T _ _ ho w.heap.size cs.toArray hp hx T zs (heap_alloc_last w _) hs hz h1 ?_
 exact h _ (arr.below_setRow ((Below.refl _ _).alloc (Nat.le_refl _) _) (Nat.le_refl _) _) (setRow_heap _ _ _ _ _ _ (heap_alloc_last w _)) (by simp)
end
theorem infoP:(sqp.prog.info? 41).map (fun i=>(i.zero,i.size,i.bytes)) = some (some (.agg (V zeros).toArray),24,192):=by kernel_rfl
theorem qe3 {ops:Array Oper} {rest:List Oper} {o:Oper} {a:Act} {w:World} {Q:Exit->Act->World->Prop} (hgd:o.guard = none) (x:Operand) (ho:o.op = .buildSlice 71 1 #[(0,x)])
  (L:List Int) (hL:L.length = 24) (hx:a.eval x = .agg (V L).toArray)
  (h:wpList sqp.prog ops Q rest (a.put o.dst (.slice (some ⟨w.heap.size,0,none⟩) 1 1)) (w.alloc (.cells (V L).toArray 41))):wpList sqp.prog ops Q (o :: rest) a w:=by
 obtain ⟨i,hi,hz,hs,hb⟩:=info_parts infoP
 refine wpList_buildSlice hgd 71 41 1 _ ho (V L).toArray i _ sqp.underlying71 hi hz (by rw [hs];decide) (by rw [hs];decide) ?_ h
 rw [hs]
 have:=Great.fill_whole (s:=24) (by decide) [.agg (V L).toArray] ((Array.range (1 * 24)).map ((Value.agg (V zeros).toArray).cells[· % (Value.agg (V zeros).toArray).cells.size]!)) (by simp [Value.cells,q8,hL]) (by simp)
 simpa [hx,Value.cells] using this
structure Pr (w wr:World) (base:Nat) (v:Value) (L:List (List Int)):Prop where
 own:wr.ownsRow base 41 24 v L.length (flP L)
 bel:Below w.heap.size w wr
theorem Pr.keep {w wr w':World} {base:Nat} {v:Value} {L:List (List Int)} (h:Pr w wr base v L) (hb:Below wr.heap.size wr w'):Pr w w' base v L:=⟨qg h.own (fun b e=>hb.block b (h.own.lt b e).2),h.bel.trans (hb.mono h.bel.size)⟩
set_option maxHeartbeats 4000000 in
theorem qju (n:Nat) (hn:n<=4) (w:World) :
  Calls sqp.prog 32 #[.int .i64 n] w fun e w'=>∃ v,e = .returned v/\Pr w w' w.heap.size v (prI n):=by
 obtain ⟨i0,hi0,hz0,hzs,hzb⟩:=info_parts infoP
 have zc:((Value.agg (V zeros).toArray).cells).size = 24:=by kernel_rfl
 have IL:idl.length = 24:=jy _
 go_enter sqp.func32,sqp.ntmps32
 go_wp2_with fail
 refine (qdn _).mono ?_
 rintro e w1 ⟨rfl,b1⟩
 have ST:Hid (∃ W,W = w1.alloc (.cells (V idl).toArray 41)/\Pr w W w.heap.size (.slice (some ⟨w1.heap.size,0,none⟩) 1 1) (prI 0)):=Lib.hid (by
  refine ⟨_,rfl,⟨⟨rfl,.inr ⟨w1.heap.size,1,_,rfl,b1.size,heap_alloc_last w1 _,Nat.le_refl _,by unfold maxLen;omega,by simp [q8,IL],by
   show List.take 24 (V idl) = flP [idl]
   rw [List.take_of_length_le (by rw [q8,IL];omega)]
   simp [flP]⟩⟩,b1.alloc b1.size _⟩⟩)
 clear b1
 generalize hI:idl = I at *
 go_wp2_with (refine qe3 rfl _ rfl I IL rfl ?_)
 obtain ⟨w2,eW,pr0⟩:=ST.out
 rw [<-eW]
 have PR0:=Lib.hid pr0
 clear eW pr0 ST hI IL
 go_loopw [3,13] (fun vo i wr=>∃ k:Nat,k<=n/\i = .int .i64 k/\Pr w wr w.heap.size vo (prI k)) (fun _ i _=>n - (intOf i).toNat)
 case atStart=>exact ⟨0,Nat.zero_le _,rfl,PR0.out⟩
 case round =>
  obtain ⟨k,hk,rfl,pr⟩:=hrel
  have PR:=Lib.hid pr;clear pr PR0
  by_cases hlt:k < n
  ·obtain ⟨l24,lall⟩:=qw5 (k:=k) (by omega)
   have LA:=Lib.hid lall;clear lall
   have EN:Hid (prI (k + 1) = swR (prI k) k):=Lib.hid rfl
   have LB:(prI k).length * (k + 1)<=96:=by
    have h2:(prI k).length * (k + 1)<=24 * 4:=Nat.mul_le_mul l24 (by omega)
    omega
   generalize prI k = L at *
   obtain ⟨A,c,rfl⟩:=mem.za PR.out.own
   go_wp2_with fail
   obtain ⟨wo,rfl⟩:∃ wo:World,wo = wr:=⟨_,rfl⟩
   have M0:Hid (Pr wo wo wo.heap.size (.slice none 0 0) (swR (L.take 0) k)):=Lib.hid ⟨⟨by simp [swR,flP],.inl ⟨rfl,by simp [swR]⟩⟩,Below.refl _ _⟩
   go_loopw [5,18] (fun vm i wr=>∃ a:Nat,a<=L.length/\i = .int .i64 a/\Pr wo wr wo.heap.size vm (swR (L.take a) k)) (fun _ i _=>L.length - (intOf i).toNat)
   case atStart=>exact ⟨0,Nat.zero_le _,rfl,M0.out⟩
   case round =>
    obtain ⟨a,ha,rfl,pm⟩:=hrel
    have MR:=Lib.hid pm;clear pm M0
    by_cases hal:a < L.length
    ·obtain ⟨p,hp⟩:∃ p,L[a]? = some p:=⟨_,List.getElem?_eq_getElem hal⟩
     have PL:p.length = 24:=LA.out p (List.mem_of_getElem? hp)
     have ES:=Lib.hid (qug (l:=k) hp)
     have LM:(swR (L.take a) k).length = a * (k + 1):=by rw [qq1,List.length_take,Nat.min_eq_left ha]
     have LM2:a * (k + 1)<=96:=Nat.le_trans (Nat.mul_le_mul_right _ ha) LB
     have OW:=Lib.hid PR.out.own
     have hA:∃ g,A = some ⟨g,0,none⟩/\g < wo.heap.size:=by
      rcases OW.out.2 with ⟨q,q2⟩ | ⟨g,cap,cur,q,_,h2,_⟩
      ·omega
      ·injection q with q1 q2 q3
       exact ⟨g,q1,(Array.getElem?_eq_some_iff.1 h2).1⟩
     obtain ⟨g,rfl,hg⟩:=hA
     have HC:Hid (∀ (j:Nat) v,(V p)[j]? = some v->wr.cell? ⟨g,a * 24 + j,none⟩ = some v):=Lib.hid (fun j v hv=>by
      have e:=OW.out.cells (g:=g) rfl (a * 24 + j) v (qq2 LA.out hp j v hv)
      rw [show ((⟨g,0,none⟩:Addr).add (a * 24 + j)) = ⟨g,a * 24 + j,none⟩ by unfold Addr.add;split <;> simp_all] at e
      rw [MR.out.bel.cell (p:=⟨g,a * 24 + j,none⟩) hg]
      exact e)
     have HSZ:(sqp.prog.info? 41).map (·.size) = some (V p).length:=by rw [qjp,q8,PL]
     have HS2:(sqp.prog.info? 41).map (·.size) = some (V p).toArray.size:=qo PL
     have HZ:(#[.int .i64 0,.int .i64 0,.int .i64 0,.int .i64 0,.int .i64 0,.int .i64 0,.int .i64 0,.int .i64 0,.int .i64 0,.int .i64 0,.int .i64 0,.int .i64 0,.int .i64 0,.int .i64 0,.int .i64 0,.int .i64 0,.int .i64 0,.int .i64 0,.int .i64 0,.int .i64 0,.int .i64 0,.int .i64 0,.int .i64 0,.int .i64 0]:Array Value).size = (V p).toArray.size:=by simp [q8,PL]
     generalize hM:swR (L.take a) k = M at *
     clear hM hp
     go_wp2_with (first | (refine qz rfl 41 _ rfl g (a * 24) rfl (V p) _ HC.out sqp.underlying41 rfl HSZ ?_) | (refine zi rfl 41 _ _ rfl (V p) _ rfl rfl HS2 HZ (zy p) ?_;intro wp bp ap sp))
     have AP:=Lib.hid ap
     have M1:Hid (Pr wo wp wo.heap.size u5 (M ++ swN p k 0)):=Lib.hid (by rw [swN,List.append_nil];exact MR.out.keep bp)
     have N1:Hid (¬ u5.ownBlock = some wr.heap.size):=Lib.hid (fun e=>by have:=(MR.out.own.lt _ e).2;omega)
     have hbp:wr.heap.size < wp.heap.size:=by omega
     have hwo:wo.heap.size<=wr.heap.size:=MR.out.bel.size
     generalize wr.heap.size = b7 at *
     clear ap bp sp MR HC HSZ
     go_loopw [5,24] (fun vm i wr=>∃ j:Nat,j<=k + 1/\i = .int .i64 j/\Pr wo wr wo.heap.size vm (M ++ swN p k j)/\Arr wr b7 (V p) 41/\¬ vm.ownBlock = some b7) (fun _ i _=>k + 1 - (intOf i).toNat)
     case atStart=>exact ⟨0,Nat.zero_le _,rfl,M1.out,AP.out,N1.out⟩
     case round =>
      obtain ⟨j,hj,rfl,pj,aj,nj⟩:=hrel
      have PJ:=Lib.hid pj;have AJ:=Lib.hid aj;have NJ:=Lib.hid nj;clear pj aj nj M1 AP N1
      by_cases hjl:j < k + 1
      ·have hk24:k < 24:=by omega
       have hj24:j < 24:=by omega
       have s0:=AJ.out.lt
       go_wp2_with (first | (refine wpList_load_row rfl 41 _ rfl b7 rfl 41 (V p).toArray (0,0) _ AJ.out sqp.underlying41 rfl HS2 ?_) | (refine zi rfl 41 _ _ rfl (V p) _ rfl rfl HS2 HZ (zy p) ?_;intro wq bq aq sq))
       have PJ2:=Lib.hid (PJ.out.keep bq);have AJ2:=Lib.hid (AJ.out.keep bq AJ.out.lt);have AQ:=Lib.hid aq
       have NJ2:Hid (∀ e,u5.ownBlock = some e->e < wr.heap.size):=Lib.hid (fun e q=>(PJ.out.own.lt e q).2)
       have hwr:=PJ.out.bel.size
       generalize hb9:wr.heap.size = b9 at *
       clear bq aq PJ AJ
       refine wp_region_held_drew (S:=Hld wo.heap.size wq.heap.size wq [(b7,V p)]) (by kernel_rfl) (Hld.lower (Hld.start (fun q hq=>by
        rcases List.mem_cons.1 hq with rfl | hq
        ·exact ⟨AJ2.out.lt,fun i v hv=>by rw [Nat.zero_add];exact AJ2.out.cell hv⟩
        ·simp at hq)) (by omega)) (fun hHeld=>?_)
       have b1:Below wq.heap.size wq wq.drew:=⟨rfl,rfl,rfl,Nat.le_refl _,fun _ _=>rfl⟩
       have PJ3:=Lib.hid (PJ2.out.keep b1);have AJ3:=Lib.hid (AJ2.out.keep b1 AJ2.out.lt);have AQ3:Hid (Arr wq.drew b9 (V p) 41):=Lib.hid (AQ.out.keep b1 AQ.out.lt)
       have s1:=b1.size
       generalize hw3:wq.drew = w3 at *
       clear b1 PJ2 AJ2 AQ hw3
       have hbj:(j:Int) < 24:=by omega
       have hbk:(k:Int) < 24:=by omega
       have ek:=bg (l:=p) (k:=k) (by omega)
       have ej:=bg (l:=p) (k:=j) (by omega)
       refine wpAnyH_take (i:=0) (v:=.int .i64 j) rfl (by kernel_rfl) (by kernel_rfl) (by kernel_rfl) (fun _ _ _ h=>h) (Or.inl ⟨by kernel_rfl,fun w hSw=>by go_simp⟩) hHeld ?_
       refine wpAnyH_take (i:=1) (v:=.int .i64 k) rfl (by kernel_rfl) (by kernel_rfl) (by kernel_rfl) (fun _ _ _ h=>h) (Or.inl ⟨by kernel_rfl,fun w hSw=>by go_simp⟩) hHeld ?_
       refine wpAnyH_take (i:=2) (v:=.int .i64 k) rfl (by kernel_rfl) (by kernel_rfl) (by kernel_rfl) (fun _ _ _ h=>h) (Or.inl ⟨by kernel_rfl,fun w hSw=>by go_simp⟩) hHeld ?_
       refine wpAnyH_take (i:=3) (v:=.pointer (some ⟨b7,k,none⟩)) rfl (by kernel_rfl) (by kernel_rfl) (by kernel_rfl) (fun _ _ _ h=>h) (Or.inl ⟨by kernel_rfl,fun w hSw=>by go_simp⟩) hHeld ?_
       refine wpAnyH_take (i:=4) (v:=.int .i64 (p.getD k 0)) rfl (by kernel_rfl) (by kernel_rfl) (by kernel_rfl) (fun _ _ _ h=>h) (Or.inl ⟨by kernel_rfl,fun w hSw=>by have c4:=hSw.fst k _ ek;rw [Nat.zero_add] at c4;go_simp⟩) hHeld ?_
       refine wpAnyH_take (i:=5) (v:=.int .i64 j) rfl (by kernel_rfl) (by kernel_rfl) (by kernel_rfl) (fun _ _ _ h=>h) (Or.inl ⟨by kernel_rfl,fun w hSw=>by go_simp⟩) hHeld ?_
       refine wpAnyH_take (i:=6) (v:=.pointer (some ⟨b7,j,none⟩)) rfl (by kernel_rfl) (by kernel_rfl) (by kernel_rfl) (fun _ _ _ h=>h) (Or.inl ⟨by kernel_rfl,fun w hSw=>by go_simp⟩) hHeld ?_
       refine wpAnyH_take (i:=7) (v:=.int .i64 (p.getD j 0)) rfl (by kernel_rfl) (by kernel_rfl) (by kernel_rfl) (fun _ _ _ h=>h) (Or.inl ⟨by kernel_rfl,fun w hSw=>by have c7:=hSw.fst j _ ej;rw [Nat.zero_add] at c7;go_simp⟩) hHeld ?_
       refine wpAnyH_take (i:=8) (v:=.pointer (some ⟨b9,j,none⟩)) rfl (by kernel_rfl) (by kernel_rfl) (by kernel_rfl) (fun _ _ _ h=>h) (Or.inl ⟨by kernel_rfl,fun w hSw=>by go_simp⟩) hHeld ?_
       refine wpAnyH_ready (rs:=[9]) (by kernel_rfl) (by simp) (AllReadyH.cons rfl (fun K hK=>?_) AllReadyH.nil)
       have c9:w3.cell? ⟨b9,j,none⟩ = some (.int .i64 (p.getD j 0)):=AQ3.out.cell ej
       have f9:w3.frozen? ⟨b9,j,none⟩ = false:=AQ3.out.frozen j
       go_simp
       rw [setCell_eq_setRow w3 b9 j _ _ _ _ AQ3.out]
       have hb79:b7 ≠ b9:=by omega
       have e1:((V p).toArray.setIfInBounds j (Value.int .i64 p[k])) = (V (p.set j (p.getD k 0))).toArray:=by rw [<-qj7];simp [PL,hk24]
       rw [e1]
       have AQ4:Hid (Arr (w3.setRow b9 (V (p.set j (p.getD k 0))).toArray) b9 (V (p.set j (p.getD k 0))) 41):=Lib.hid AQ3.out.row
       have O4:Hid (∀ q,q ≠ b9->(w3.setRow b9 (V (p.set j (p.getD k 0))).toArray).heap[q]? = w3.heap[q]?):=Lib.hid (fun q hq=>setRow_other _ _ _ _ hq)
       have E4:Hid ((w3.setRow b9 (V (p.set j (p.getD k 0))).toArray).os = w3.os/\(w3.setRow b9 (V (p.set j (p.getD k 0))).toArray).tape = w3.tape/\(w3.setRow b9 (V (p.set j (p.getD k 0))).toArray).output = w3.output/\(w3.setRow b9 (V (p.set j (p.getD k 0))).toArray).heap.size = w3.heap.size):=Lib.hid ⟨rfl,rfl,rfl,by simp⟩
       have hH4:=hHeld.other (g:=b9) (by omega) (fun q hq=>by
        have:=List.mem_singleton.1 hq
        subst this
        exact hb79) (V (p.set j (p.getD k 0))).toArray
       clear e1 c9 f9
       refine hK.out _ _ hH4 (fun hHeld2=>?_)
       clear hK K hHeld2 hHeld
       generalize w3.setRow b9 (V (p.set j (p.getD k 0))).toArray = w4 at *
       refine wpAnyH_ready (rs:=[10]) (by kernel_rfl) (by simp) (AllReadyH.cons rfl (fun K hK=>?_) AllReadyH.nil)
       go_simp
       refine hK.out _ _ hH4 (fun hHeld2=>?_)
       clear hK K hHeld2
       have QL:(p.set j (p.getD k 0)).length = 24:=by simp [PL]
       have HW:Hid ((p.set j (p.getD k 0)).set k (p.getD j 0) = swp p j k):=Lib.hid rfl
       generalize p.set j (p.getD k 0) = q1 at *
       have c9:w4.cell? ⟨b9,k,none⟩ = some (.int .i64 (q1.getD k 0)):=AQ4.out.cell (bg (by omega))
       have f9:w4.frozen? ⟨b9,k,none⟩ = false:=AQ4.out.frozen k
       refine wpAnyH_ready (rs:=[11]) (by kernel_rfl) (by simp) (AllReadyH.cons rfl (fun K hK=>?_) AllReadyH.nil)
       go_simp
       rw [setCell_eq_setRow w4 b9 k _ _ _ _ AQ4.out]
       have e1:((V q1).toArray.setIfInBounds k (Value.int .i64 p[j])) = (V (swp p j k)).toArray:=by rw [<-HW.out,<-qj7];simp [PL,hj24]
       rw [e1]
       have AQ5:Hid (Arr (w4.setRow b9 (V (swp p j k)).toArray) b9 (V (swp p j k)) 41):=Lib.hid AQ4.out.row
       have O5:Hid (∀ q,q ≠ b9->(w4.setRow b9 (V (swp p j k)).toArray).heap[q]? = w3.heap[q]?):=Lib.hid (fun q hq=>(setRow_other _ _ _ _ hq).trans (O4.out q hq))
       have E5:Hid ((w4.setRow b9 (V (swp p j k)).toArray).os = w3.os/\(w4.setRow b9 (V (swp p j k)).toArray).tape = w3.tape/\(w4.setRow b9 (V (swp p j k)).toArray).output = w3.output/\(w4.setRow b9 (V (swp p j k)).toArray).heap.size = w3.heap.size):=Lib.hid ⟨E4.out.1,E4.out.2.1,E4.out.2.2.1,by have:=E4.out.2.2.2;simp;omega⟩
       have hH5:=hH4.other (g:=b9) (by omega) (fun q hq=>by
        have:=List.mem_singleton.1 hq
        subst this
        exact hb79) (V (swp p j k)).toArray
       refine hK.out _ _ hH5 (fun hHeld2=>?_)
       clear hK K hHeld2 hH4 e1 c9 f9 AQ4 O4 E4
       generalize w4.setRow b9 (V (swp p j k)).toArray = w5 at *
       refine wpAnyH_done (by kernel_rfl) ?_ _
       clear hH5
       go_simp
       have SL:(swp p j k).length = 24:=by rw [qq0];exact PL
       have HS5:(sqp.prog.info? 41).map (·.size) = some (V (swp p j k)).toArray.size:=qo SL
       have s5:=E5.out.2.2.2
       have OW5:Hid (w5.ownsRow wo.heap.size 41 24 u5 (M ++ swN p k j).length (flP (M ++ swN p k j))):=Lib.hid (qg PJ3.out.own (fun e q=>O5.out e (fun x=>by have:=NJ2.out e q;omega)))
       have BL5:Hid (Below wo.heap.size wo w5):=Lib.hid ⟨E5.out.1.trans PJ3.out.bel.os,E5.out.2.1.trans PJ3.out.bel.tape,E5.out.2.2.1.trans PJ3.out.bel.output,by have:=PJ3.out.bel.size;omega,fun e he=>(O5.out e (by omega)).trans (PJ3.out.bel.block e he)⟩
       have AP5:Hid (Arr w5 b7 (V p) 41):=Lib.hid ((O5.out b7 hb79).trans AJ3.out)
       have LX:(M ++ swN p k j).length<=101:=by rw [List.length_append,qlr];omega
       have EX:Hid (M ++ swN p k (j + 1) = (M ++ swN p k j) ++ [swp p j k]):=Lib.hid (by rw [swN,List.append_assoc])
       generalize hX:M ++ swN p k j = X at *
       generalize hT:swp p j k = T at *
       have OA:Hid ((w5.alloc (.cells (V T).toArray 41)).ownsRow wo.heap.size 41 24 u5 X.length (flP X)):=Lib.hid (OW5.out.alloc _)
       have HN:Hid (∀ (i:Nat) u,(V T)[i]? = some u->(w5.alloc (.cells (V T).toArray 41)).cell? ((⟨w5.heap.size,0,none⟩:Addr).add i) = some u):=Lib.hid (fun i u hu=>by
        rw [show ((⟨w5.heap.size,0,none⟩:Addr).add i) = ⟨w5.heap.size,i,none⟩ by unfold Addr.add;split <;> simp_all]
        exact (Arr.new w5 (V T) 41 rfl).cell hu)
       have VL:(V T).length = 1 * 24:=by rw [q8,SL]
       have h63:X.length + 1<=maxLen:=by unfold maxLen;omega
       have hby:(X.length + 1) * 192<=140737488355328:=by omega
       have hba:wo.heap.size<=(w5.alloc (.cells (V T).toArray 41)).heap.size:=by simp;omega
       have V1:Hid (∀ u ∈ V T,u.oneCell' = true):=Lib.hid (by
        intro u hu
        unfold V at hu
        obtain ⟨z,_,rfl⟩:=List.mem_map.1 hu
        rfl)
       clear hX PJ3 AJ3 AQ3 hT HW
       go_wp2_with (first | (refine wpList_load_row rfl 41 _ rfl b9 rfl 41 (V T).toArray (0,0) _ AQ5.out sqp.underlying41 rfl HS5 ?_) | (refine qe3 rfl _ rfl T SL rfl ?_) | (at_builtin;refine wpList_append_lies (w5.alloc (.cells (V T).toArray 41)) rfl _ _ 71 rfl wo.heap.size 41 i0 _ 24 192 sqp.underlying71 hi0 hz0 hzs hzb zc (by decide) u5 X.length (flP X) rfl OA.out ⟨w5.heap.size,0,none⟩ 1 1 (V T) rfl VL HN.out V1.out (by decide) h63 hby hba (w5.heap.size + 1) (by simp) ?_))
       intro g6 cap6 w6 ho6 hg6 hb6 hl6
       have P6:Hid (Pr wo w6 wo.heap.size (.slice (some ⟨g6,0,none⟩) (X.length + 1) cap6) (X ++ [T])):=Lib.hid ⟨by
        rw [quh,List.length_append,List.length_singleton]
        exact ho6,(BL5.out.alloc BL5.out.size _).trans (own_below OA.out hg6 (Nat.le_refl _) hba)⟩
       have A6:Hid (Arr w6 b7 (V p) 41):=Lib.hid ((hg6.block b7 (by have:=AP5.out.lt;simp;omega) (fun e=>NJ.out e.symm)).trans (AP5.out.alloc _))
       have N6:Hid (¬ (Value.slice (some ⟨g6,0,none⟩) (X.length + 1) cap6).ownBlock = some b7):=Lib.hid (fun e=>by
        have e2:g6 = b7:=by simpa [Value.ownBlock] using e
        rcases hb6 with q | q
        ·exact NJ.out (by rw [q,e2])
        ·have:=AP5.out.lt;omega)
       clear ho6 hg6 hb6 hl6 OA HN AP5 OW5 BL5 AQ5 O5 E5 NJ
       go_wp2_with fail
       go_roundw
       case rel=>exact ⟨j + 1,by omega,by go_num,by rw [EX.out];exact P6.out,A6.out,N6.out⟩
       case measure=>simp [intOf];omega
      ·obtain rfl:j = k + 1:=by omega
       have PE:Hid (Pr wo wr wo.heap.size u5 (swR (L.take (a + 1)) k)):=Lib.hid (by rw [ES.out];exact PJ.out)
       clear PJ AJ NJ
       go_wp2_with fail
       go_roundw
       case rel=>exact ⟨a + 1,by omega,by go_num,PE.out⟩
       case measure=>simp [intOf];omega
    ·obtain rfl:a = L.length:=by omega
     have PE:Hid (Pr w wr w.heap.size u5 (prI (k + 1))):=Lib.hid (by
      have h1:=MR.out
      rw [List.take_of_length_le (Nat.le_refl _),<-EN.out] at h1
      have s0:=PR.out.bel.size
      refine ⟨⟨h1.own.1,?_⟩,PR.out.bel.trans (h1.bel.mono s0)⟩
      rcases h1.own.2 with q | ⟨g,cap,cur,q1,q2,q3⟩
      ·exact .inl q
      ·exact .inr ⟨g,cap,cur,q1,Nat.le_trans s0 q2,q3⟩)
     clear MR PR
     go_wp2_with fail
     go_roundw
     case rel=>exact ⟨k + 1,by omega,by go_num,PE.out⟩
     case measure=>simp [intOf];omega
  ·obtain rfl:k = n:=by omega
   go_wp2_with fail
   go_ret
   exact ⟨_,rfl,PR.out⟩
end Go.Proofs.Ytcdclihinmdgiaa.lst

namespace Go.Proofs.Ytcdclihinmdgiaa.lst
open pm orb arr
set_option linter.unusedVariables false
set_option maxRecDepth 100000
def cut (n:Nat) (p:List Int):List Int:=p.take n
def prC (n:Nat):List (List Int):=(prI n).map (cut n)
set_option maxRecDepth 100000 in
theorem qo5:∀ n:Fin 5,qjj n.val [] (prC n.val) (prC n.val) = swL n.val:=by decide +kernel
set_option maxRecDepth 100000 in
theorem qo6:∀ n:Fin 5,((prI n.val).all fun p=>decide (p = ext (cut n.val p)) && okB (cut n.val p) && decide ((cut n.val p).length = n.val)) = true:=by decide +kernel
end Go.Proofs.Ytcdclihinmdgiaa.lst

namespace Go.Proofs.Ytcdclihinmdgiaa.lst
open pm orb arr permOf
set_option linter.unusedVariables false
set_option maxRecDepth 100000
theorem qic {n:Nat} (hn:n<=4) {p:List Int} (hp:p ∈ prI n):p = ext (cut n p)/\Ok (cut n p)/\(cut n p).length = n:=by
 have:=List.all_eq_true.1 (qo6 ⟨n,by omega⟩) p hp
 simp only [Bool.and_eq_true,decide_eq_true_eq] at this
 exact ⟨this.1.1,Ok.of _ this.1.2,this.2⟩
theorem q02 {n a:Nat} {p:List Int} (h:(prI n)[a]? = some p):(prC n)[a]? = some (cut n p):=by simp [prC,h]
theorem qyd (n:Nat):(prC n).length = (prI n).length:=by simp [prC]
theorem qui {n:Nat} (hn:n<=4) (h0:0 < n) {p q:List Int} (hp:p ∈ prI n) (hq:q ∈ prI n):decide ((reach p q 0).length = n) = zh (cut n p) (cut n q):=by
 obtain ⟨e1,o1,l1⟩:=qic hn hp
 obtain ⟨e2,o2,l2⟩:=qic hn hq
 have e:=qgd o1 o2 (by rw [l1,l2]) (f:=0) (by omega) (by omega)
 rw [<-e1,<-e2] at e
 rw [e]
 unfold zh
 have h1:qd3 (cut n p) (cut n q) = true:=by
  unfold qd3
  simp [o1.b,o2.b,l1,l2]
 rw [h1,l1]
 simp [h0]
end Go.Proofs.Ytcdclihinmdgiaa.lst

namespace Go.Proofs.Ytcdclihinmdgiaa.lst
open Go.ChangeShapes Go.WideShapes Go.ChangeAt Go.RowKit
open mem ints arr pm sf gl orb Go.Proofs.Ytcdclihinmdgiaa.lp
open Go.Proofs.Ytcdclihinmdgiaa.wd
set_option linter.unusedVariables false
set_option maxRecDepth 100000
theorem qw6:sqp.prog.built 46 [(1,(.func (.func 14) #[] #[]))] = some #[.slice none 0 0,(.func (.func 14) #[] #[])]:=by kernel_rfl
theorem q03:(sqp.prog.info? 46).map (·.size) = some 2:=by kernel_rfl
def qw7 (n:Int) (w:World) (e:Ending) (w':World):Prop :=
 ∃ v,e = .returned v/\w'.ownsRow w.heap.size 43 49 v (swF n).length (flG n.toNat (swF n))/\Below w.heap.size w w'
theorem qq3 {n:Int} {w w':World} (h:swF n = []) (hb:Below w.heap.size w w'):qw7 n w (.returned (.slice none 0 0)) w' :=
 ⟨_,rfl,by rw [h];exact ⟨rfl,.inl ⟨rfl,rfl⟩⟩,hb⟩
theorem qye {n:Nat} (h1:1<=n) (h4:n<=4):swF (n:Int) = qjj n [] (prC n) (prC n):=by
 rw [qqt h1 h4]
 exact (qo5 ⟨n,by omega⟩).symm
theorem qyf {w wr:World} {base:Nat} {v:Value} {L:List (List Int)} (h:Pr w wr base v L) (hl:0 < L.length) (h24:∀ p ∈ L,p.length = 24) :
  ∃ g c,v = .slice (some ⟨g,0,none⟩) L.length c/\L.length<=c/\base<=g/\g < wr.heap.size/\∀ W:World,W.heap[g]? = wr.heap[g]?->∀ (a:Nat) p,L[a]? = some p->∀ (j:Nat) u,(V p)[j]? = some u->W.cell? ⟨g,a * 24 + j,none⟩ = some u:=by
 rcases h.own.2 with ⟨q,q2⟩ | ⟨g,cap,cur,q,h1,h2,h3,_⟩
 ·omega
 ·subst q
  refine ⟨g,cap,rfl,h3,h1,(Array.getElem?_eq_some_iff.1 h2).1,fun W hW a p hp j u hu=>?_⟩
  have e:=h.own.cells (g:=g) rfl (a * 24 + j) u (qq2 h24 hp j u hu)
  rw [show ((⟨g,0,none⟩:Addr).add (a * 24 + j)) = ⟨g,a * 24 + j,none⟩ by unfold Addr.add;split <;> simp_all] at e
  rw [World.cell?_of_block (w:=wr) (a:=⟨g,a * 24 + j,none⟩) hW]
  exact e
set_option maxHeartbeats 4000000 in
theorem qid (n:Int) (w:World):Calls sqp.prog 15 #[.int .i64 n] w (qw7 n w):=by
 by_cases hr:1<=n/\n<=4
 ·obtain ⟨N,rfl⟩:∃ N:Nat,n = (N:Int):=⟨n.toNat,by omega⟩
  have h1:1<=N:=by omega
  have h4:N<=4:=by omega
  have EF:=Lib.hid (qye h1 h4)
  obtain ⟨l24,lall⟩:=qw5 (k:=N) h4
  have LA:=Lib.hid lall;clear lall
  have LP:=Lib.hid (fun p (hp:p ∈ prI N)=>qic h4 hp)
  have LR:=Lib.hid (fun p q (hp:p ∈ prI N) (hq:q ∈ prI N)=>qui h4 h1 hp hq)
  have LC:=Lib.hid (qyd N)
  have LT:=Lib.hid (fun a p (h:(prI N)[a]? = some p)=>q02 h)
  have LZ:0 < (prI N).length:=by
   have:∀ k:Fin 5,0 < (prI k.val).length:=by decide +kernel
   exact this ⟨N,by omega⟩
  have hn1:¬ ((N:Int) < 1):=by omega
  have hn4:¬ ((4:Int) < (N:Int)):=by omega
  go_enter sqp.func15,sqp.ntmps15
  go_wp2_with (first | (refine gl.wpList_build rfl 46 _ rfl [(1,(.func (.func 14) #[] #[]))] rfl _ qw6 ?_) | (refine zi rfl 46 _ _ rfl [.slice none 0 0,(.func (.func 14) #[] #[])] #[.slice none 0 0,.nilFunc] rfl rfl q03 rfl (by simp [Value.oneCell']) ?_;intro w1 b1 a1 s1))
  refine (qju N h4 _).mono ?_
  rintro e w2 ⟨vp,rfl,pr⟩
  have hb:=a1.lt
  have AS0:Hid (As w2 w.heap.size w.heap.size N (.slice none 0 0) []):=Lib.hid ⟨a1.keep pr.bel a1.lt,⟨rfl,.inl ⟨rfl,rfl⟩⟩,fun e=>by simp [Value.ownBlock] at e,List.Pairwise.nil,fun y hy=>by simp at hy⟩
  have B2:Hid (Below w.heap.size w w2):=Lib.hid (b1.trans (pr.bel.mono (by omega)))
  obtain ⟨gp,cp,rfl,hcp,hgb,hgp,rd⟩:=qyf pr LZ LA.out
  have RD:=Lib.hid rd
  have hgp0:w.heap.size < gp:=by omega
  clear rd pr a1 b1 LZ
  generalize prI N = L at *
  generalize hC:prC N = C at *
  go_wp2_with fail
  go_loopw [20] (fun i wr=>∃ (a:Nat) (v:Value),a<=L.length/\i = .int .i64 a/\As wr w.heap.size w.heap.size N v (qjj N [] (C.take a) C)/\(qjj N [] (C.take a) C).length<=a * 24/\Fr w2 wr w.heap.size (.slice none 0 0) v) (fun i _=>L.length - (intOf i).toNat)
  case atStart=>exact ⟨0,_,Nat.zero_le _,rfl,AS0.out,Nat.zero_le _,Fr.of _ _ (Below.refl _ _)⟩
  case round =>
   obtain ⟨a,v,ha,rfl,ak,qji,fr⟩:=hrel
   have AS:=Lib.hid ak;have FR:=Lib.hid fr;clear ak fr AS0
   by_cases hal:a < L.length
   ·obtain ⟨p,hp⟩:∃ p,L[a]? = some p:=⟨_,List.getElem?_eq_getElem hal⟩
    have EA:=Lib.hid (qjr (n:=N) (acc:=[]) (U:=C) (LT.out a p hp))
    have HP:=Lib.hid (List.mem_of_getElem? hp)
    have PL:p.length = 24:=LA.out p HP.out
    have HC:Hid (∀ (j:Nat) u,(V p)[j]? = some u->wr.cell? ⟨gp,a * 24 + j,none⟩ = some u):=Lib.hid (RD.out wr (FR.out.block gp hgp (by omega) (fun e=>by simp [Value.ownBlock] at e)) a p hp)
    have HSZ:(sqp.prog.info? 41).map (·.size) = some (V p).length:=by rw [qjp,q8,PL]
    have HS2:(sqp.prog.info? 41).map (·.size) = some (V p).toArray.size:=qo PL
    have HZ:(#[.int .i64 0,.int .i64 0,.int .i64 0,.int .i64 0,.int .i64 0,.int .i64 0,.int .i64 0,.int .i64 0,.int .i64 0,.int .i64 0,.int .i64 0,.int .i64 0,.int .i64 0,.int .i64 0,.int .i64 0,.int .i64 0,.int .i64 0,.int .i64 0,.int .i64 0,.int .i64 0,.int .i64 0,.int .i64 0,.int .i64 0,.int .i64 0]:Array Value).size = (V p).toArray.size:=by simp [q8,PL]
    generalize hM:qjj N [] (C.take a) C = M at *
    clear hM hp
    go_wp2_with (first | (refine qz rfl 41 _ rfl gp (a * 24) rfl (V p) _ HC.out sqp.underlying41 rfl HSZ ?_) | (refine zi rfl 41 _ _ rfl (V p) _ rfl rfl HS2 HZ (zy p) ?_;intro wq bq aq sq))
    have AQ:=Lib.hid aq
    have ASq:=Lib.hid (AS.out.keep bq)
    have FRq:=Lib.hid (FR.out.trans (Fr.of _ _ bq))
    have NV:Hid (¬ v.ownBlock = some wr.heap.size):=Lib.hid (fun e=>by have:=(AS.out.own.lt _ e).2;omega)
    have hb6:wr.heap.size < wq.heap.size:=by omega
    have hb6w:w.heap.size < wr.heap.size:=by have:=AS.out.box.lt;omega
    generalize wr.heap.size = b6 at *
    clear aq bq sq AS FR HC
    go_loopw [26] (fun i wr=>∃ (b:Nat) (v':Value),b<=L.length/\i = .int .i64 b/\As wr w.heap.size w.heap.size N v' (rowP N M (cut N p) (C.take b))/\(rowP N M (cut N p) (C.take b)).length<=a * 24 + b/\Fr wq wr w.heap.size v v') (fun i _=>L.length - (intOf i).toNat)
    case atStart=>exact ⟨0,v,Nat.zero_le _,rfl,ASq.out,qji,Fr.of _ _ (Below.refl _ _)⟩
    case round =>
     obtain ⟨b,v',hbb,rfl,ak,qji,fr⟩:=hrel
     have AS:=Lib.hid ak;have FR:=Lib.hid fr;clear ak fr ASq
     have FR2:=Lib.hid (FRq.out.trans FR.out)
     have A6:Hid (Arr wr b6 (V p) 41):=Lib.hid ((FR.out.block b6 hb6 (by omega) NV.out).trans AQ.out)
     by_cases hbl:b < L.length
     ·obtain ⟨q,hq⟩:∃ q,L[b]? = some q:=⟨_,List.getElem?_eq_getElem hbl⟩
      have EB:=Lib.hid (qjq (n:=N) (acc:=M) (r:=cut N p) (LT.out b q hq))
      have HQ:=Lib.hid (List.mem_of_getElem? hq)
      have QL:q.length = 24:=LA.out q HQ.out
      have HC:Hid (∀ (j:Nat) u,(V q)[j]? = some u->wr.cell? ⟨gp,b * 24 + j,none⟩ = some u):=Lib.hid (RD.out wr (FR2.out.block gp hgp (by omega) (fun e=>by simp [Value.ownBlock] at e)) b q hq)
      have HQZ:(sqp.prog.info? 41).map (·.size) = some (V q).length:=by rw [qjp,q8,QL]
      have HQ2:(sqp.prog.info? 41).map (·.size) = some (V q).toArray.size:=qo QL
      have HZ2:(#[.int .i64 0,.int .i64 0,.int .i64 0,.int .i64 0,.int .i64 0,.int .i64 0,.int .i64 0,.int .i64 0,.int .i64 0,.int .i64 0,.int .i64 0,.int .i64 0,.int .i64 0,.int .i64 0,.int .i64 0,.int .i64 0,.int .i64 0,.int .i64 0,.int .i64 0,.int .i64 0,.int .i64 0,.int .i64 0,.int .i64 0,.int .i64 0]:Array Value).size = (V q).toArray.size:=by simp [q8,QL]
      generalize hM:rowP N M (cut N p) (C.take b) = K at *
      clear hM hq
      have hwr:=A6.out.lt
      go_wp2_with (first | (refine qz rfl 41 _ rfl gp (b * 24) rfl (V q) _ HC.out sqp.underlying41 rfl HQZ ?_) | (refine zi rfl 41 _ _ rfl (V q) _ rfl rfl HQ2 HZ2 (zy q) ?_;intro wx bx ax sx;have A6x:Hid (Arr wx b6 (V p) 41):=Lib.hid (A6.out.keep bx hwr)) | (refine wpList_load_row rfl 41 _ rfl b6 rfl 41 (V p).toArray (0,0) _ A6x.out sqp.underlying41 rfl HS2 ?_) | (refine wpList_load_row rfl 41 _ rfl wr.heap.size rfl 41 (V q).toArray (0,0) _ ax sqp.underlying41 rfl HQ2 ?_))
      obtain ⟨ep,op,lp'⟩:=LP.out p HP.out
      obtain ⟨eq',oq,lq⟩:=LP.out q HQ.out
      have SP:=op.sq;rw [<-ep] at SP
      have SQ:=oq.sq;rw [<-eq'] at SQ
      have EP:=Lib.hid ep;have EQ:=Lib.hid eq';have LPN:=Lib.hid lp'
      have AX:=Lib.hid ax
      have ASx:=Lib.hid (AS.out.keep bx);have FRx:=Lib.hid (FR.out.trans (Fr.of _ _ bx))
      have hbw:w.heap.size < wr.heap.size:=by omega
      generalize wr.heap.size = bq at *
      clear ep eq' op oq lp' lq bx ax sx AS FR A6 HC FR2
      refine (fns.qjx p q _ SP SQ).mono ?_
      rintro e wy ⟨rfl,by_⟩
      have A6y:=Lib.hid (A6x.out.keep by_ A6x.out.lt);have AY:=Lib.hid (AX.out.keep by_ AX.out.lt)
      have ASy:=Lib.hid (ASx.out.keep by_);have FRy:=Lib.hid (FRx.out.trans (Fr.of _ _ by_))
      have LRZ:=LR.out p q HP.out HQ.out
      clear by_ A6x AX ASx FRx SP SQ
      generalize (reach p q 0).length = z at *
      by_cases hzn:z = N
      ·subst hzn
       have HT:Hid (zh (cut z p) (cut z q) = true):=Lib.hid (by rw [<-LRZ];exact decide_eq_true rfl)
       have HS:Hid (Sf z (cut z p) (cut z q)):=Lib.hid (by have:=ku.1 HT.out;rwa [LPN.out] at this)
       have HPUT:Hid (qm4 z K (cut z p) (cut z q) = qbe K (orb.cn (cut z p,cut z q)) false):=Lib.hid (by
        unfold qm4
        rw [if_pos HT.out]
        unfold orb.cn
        rw [LPN.out])
       have FM:=qnl (cut z p) (cut z q) z wy HS.out
       rw [<-EP.out,<-EQ.out] at FM
       have HF:=Lib.hid FM
       clear LRZ FM
       go_wp2_with (first | (refine wpList_load_row rfl 41 _ rfl b6 rfl 41 (V p).toArray (0,0) _ A6y.out sqp.underlying41 rfl HS2 ?_) | (refine wpList_load_row rfl 41 _ rfl bq rfl 41 (V q).toArray (0,0) _ AY.out sqp.underlying41 rfl HQ2 ?_) | (refine gl.wpList_build rfl 43 _ rfl [(0,.agg (V p).toArray),(1,.agg (V q).toArray),(2,.int .i64 z)] rfl (V (gl p q z)).toArray (qbw PL QL z) ?_))
       refine HF.out.mono ?_
       rintro e wz ⟨rfl,bz⟩
       have ASz:=Lib.hid (ASy.out.keep bz);have FRz:=Lib.hid (FRy.out.trans (Fr.of _ _ bz))
       have SC:=qkf (s:=(cut z p,cut z q)) HS.out
       have HSC:=Lib.hid SC
       clear bz ASy FRy AY A6y HF SC
       go_wp2_with fail
       refine (qqz w.heap.size w.heap.size z v' K (orb.cn (cut z p,cut z q)) _ ASz.out (Nat.le_refl _) HSC.out (by omega)).mono ?_
       rintro e wu ⟨v5,rfl,as5,fr5⟩
       have ln:=qnd z K (cut z p) (cut z q)
       have AS5:Hid (As wu w.heap.size w.heap.size z v5 (rowP z M (cut z p) (C.take (b + 1)))):=Lib.hid (by rw [EB.out,HPUT.out];exact as5)
       have L5:(rowP z M (cut z p) (C.take (b + 1))).length<=a * 24 + (b + 1):=by rw [EB.out];omega
       have FR5:=Lib.hid (FRz.out.trans fr5)
       clear as5 fr5 ASz FRz ln
       go_wp2_with fail
       go_roundw
       case rel=>exact ⟨b + 1,v5,by omega,by go_num,AS5.out,L5,FR5.out⟩
       case measure=>simp [intOf];omega
      ·have HT:Hid (zh (cut N p) (cut N q) = false):=Lib.hid (by rw [<-LRZ];exact decide_eq_false hzn)
       have hzi:¬ ((z:Int) = (N:Int)):=by omega
       have PN:=Lib.hid (qqu (n:=N) (acc:=K) HT.out)
       clear LRZ
       go_wp2_with fail
       go_roundw
       case rel=>exact ⟨b + 1,v',by omega,by go_num,by rw [EB.out,PN.out];exact ASy.out,by rw [EB.out,PN.out];omega,FRy.out⟩
       case measure=>simp [intOf];omega
     ·obtain rfl:b = L.length:=by omega
      have TK:C.take L.length = C:=List.take_of_length_le (by rw [LC.out];exact Nat.le_refl _)
      have SE:Hid (As wr w.heap.size w.heap.size N v' (qjj N [] (C.take (a + 1)) C)):=Lib.hid (by have:=AS.out;rwa [TK,<-EA.out] at this)
      have LE:(qjj N [] (C.take (a + 1)) C).length<=a * 24 + L.length:=by rw [TK,<-EA.out] at qji;exact qji
      clear qji AS EA TK A6
      go_wp2_with fail
      go_roundw
      case rel=>exact ⟨a + 1,v',by omega,by go_num,SE.out,by omega,FR2.out⟩
      case measure=>simp [intOf];omega
   ·obtain rfl:a = L.length:=by omega
    have TK:C.take L.length = C:=List.take_of_length_le (by rw [LC.out];exact Nat.le_refl _)
    have SE:Hid (As wr w.heap.size w.heap.size N v (swF (N:Int))):=Lib.hid (by have:=AS.out;rwa [TK,<-EF.out] at this)
    have LE:(swF (N:Int)).length<=L.length * 24:=by rw [TK,<-EF.out] at qji;exact qji
    have hwz:w.heap.size<=wr.heap.size:=by have:=SE.out.box.lt;omega
    clear qji AS EF TK
    go_wp2_with fail
    refine (q00 w.heap.size w.heap.size N v (swF (N:Int)) _ SE.out (Nat.le_refl _) (by omega)).mono ?_
    rintro e wu ⟨vu,v2,rfl,ow,_,fr⟩
    have BE:Hid (Below w.heap.size w wu):=Lib.hid (B2.out.trans ((FR.out.trans fr).below B2.out.size (Nat.le_refl _) (fun k e=>by simp [Value.ownBlock] at e)))
    have OE:Hid (wu.ownsRow w.heap.size 43 49 vu (swF (N:Int)).length (flG N (swF (N:Int)))):=Lib.hid ⟨ow.1,ow.2.imp id (fun ⟨g,cap,cur,q1,q2,q3⟩=>⟨g,cap,cur,q1,Nat.le_trans hwz q2,q3⟩)⟩
    clear ow fr
    go_wp2_with fail
    go_ret
    exact ⟨_,rfl,OE.out,BE.out⟩
 ·have HF:=Lib.hid (qqs hr)
  by_cases hn1:n < 1
  ·go_enter sqp.func15,sqp.ntmps15
   go_wp2_with fail
   go_ret
   exact qq3 HF.out (Below.refl _ _)
  ·have hn4:(4:Int) < n:=by omega
   go_enter sqp.func15,sqp.ntmps15
   go_wp2_with fail
   go_ret
   exact qq3 HF.out (Below.refl _ _)
end Go.Proofs.Ytcdclihinmdgiaa.lst

namespace Go.Proofs.Ytcdclihinmdgiaa.lst
open Go.ChangeShapes Go.WideShapes Go.ChangeAt Go.RowKit
open mem ints arr pm sf gl orb Go.Proofs.Ytcdclihinmdgiaa.lp
open Go.Proofs.Ytcdclihinmdgiaa.wd
set_option linter.unusedVariables false
set_option maxRecDepth 100000
theorem qbt {xs:List Int} {n:Nat} (h:xs.length = n) (h24:n<=24):(ext xs).take n = xs:=by
 rw [qlu xs (by omega),<-h]
 simp
theorem qyg:(sqp.prog.info? 32).map (fun i=>(i.zero,i.size,i.bytes)) = some (some (.agg #[.slice none 0 0,.slice none 0 0]),2,48):=by kernel_rfl
set_option maxHeartbeats 2000000 in
theorem qha (base n:Nat) (v:Value) (L:List Sur) (w:World) (ho:w.ownsRow base 43 49 v L.length (flG n L)) (hs:∀ y ∈ L,Sf n y.1 y.2) (hl:L.length<=1000) :
  Calls sqp.prog 20 #[v] w fun e w'=>∃ v',e = .returned v'/\Sx w w' v' n L:=by
 have HO:=Lib.hid ho;have HS:=Lib.hid hs;clear hs
 obtain ⟨i0,hi0,hz0,hz1,hz2⟩:=info_parts qyg
 obtain ⟨A,c,rfl⟩:=mem.za ho
 clear ho
 go_enter sqp.func20,sqp.ntmps20
 go_wp2_with fail
 go_loopw [3,8] (fun vo i wr=>∃ k:Nat,k<=L.length/\i = .int .i64 k/\Sx w wr vo n (L.take k)) (fun _ i _=>L.length - (intOf i).toNat)
 case atStart=>exact ⟨0,Nat.zero_le _,rfl,Sx.nil n (Below.refl _ _)⟩
 case round =>
  obtain ⟨k,hk,rfl,sx⟩:=hrel
  have SX:=Lib.hid sx;clear sx
  by_cases hlt:k < L.length
  ·obtain ⟨s,hx⟩:∃ s,L[k]? = some s:=⟨_,List.getElem?_eq_getElem hlt⟩
   have SS:=Lib.hid (HS.out s (List.mem_of_getElem? hx))
   have ET:Hid (L.take (k + 1) = L.take k ++ [s]):=Lib.hid (by rw [List.take_add_one,hx];rfl)
   have LT:(L.take k).length<=1000:=by rw [List.length_take,Nat.min_eq_left hk];omega
   have hA:∃ g,A = some ⟨g,0,none⟩/\g < w.heap.size:=by
    rcases HO.out.2 with ⟨q,q2⟩ | ⟨g,cap,cur,q,_,h2,_⟩
    ·omega
    ·injection q with q1 q2 q3
     exact ⟨g,q1,(Array.getElem?_eq_some_iff.1 h2).1⟩
   obtain ⟨g,rfl,hg⟩:=hA
   have HC:Hid (∀ (j:Nat) u,(V (gS s n))[j]? = some u->wr.cell? ⟨g,k * 49 + j,none⟩ = some u):=Lib.hid (fun j u hu=>by
    rw [SX.out.bel.cell (p:=⟨g,k * 49 + j,none⟩) hg]
    exact qav HO.out _ u (qjs n hx j u hu))
   have HSZ:(sqp.prog.info? 43).map (·.size) = some (V (gS s n)).length:=hiS s n
   have HS2:(sqp.prog.info? 43).map (·.size) = some (V (gS s n)).toArray.size:=zu (qaq s n)
   have HZ:(#[.int .i64 0,.int .i64 0,.int .i64 0,.int .i64 0,.int .i64 0,.int .i64 0,.int .i64 0,.int .i64 0,.int .i64 0,.int .i64 0,.int .i64 0,.int .i64 0,.int .i64 0,.int .i64 0,.int .i64 0,.int .i64 0,.int .i64 0,.int .i64 0,.int .i64 0,.int .i64 0,.int .i64 0,.int .i64 0,.int .i64 0,.int .i64 0,.int .i64 0,.int .i64 0,.int .i64 0,.int .i64 0,.int .i64 0,.int .i64 0,.int .i64 0,.int .i64 0,.int .i64 0,.int .i64 0,.int .i64 0,.int .i64 0,.int .i64 0,.int .i64 0,.int .i64 0,.int .i64 0,.int .i64 0,.int .i64 0,.int .i64 0,.int .i64 0,.int .i64 0,.int .i64 0,.int .i64 0,.int .i64 0,.int .i64 0]:Array Value).size = (V (gS s n)).toArray.size:=by simp [qaw]
   generalize hM:L.take k = M at *
   clear hM hx
   have hwr:=SX.out.bel.size
   go_wp2_with (first | (refine qz rfl 43 _ rfl g (k * 49) rfl (V (gS s n)) _ HC.out sqp.underlying43 rfl HSZ ?_) | (refine zi rfl 43 _ _ rfl (V (gS s n)) _ rfl rfl HS2 HZ (zy _) ?_;intro wx bx ax sx_) | (refine wpList_load_row rfl 43 _ rfl wr.heap.size rfl 43 (V (gS s n)).toArray (0,0) _ ax sqp.underlying43 rfl HS2 ?_))
   refine (qf3 (ext s.1) (ext s.2) n _ (qc _) (qc _) (quc SS.out)).mono ?_
   rintro e wy ⟨gv,rfl,sv,by_⟩
   rw [qbt SS.out.lr (quc SS.out),qbt SS.out.lu (quc SS.out)] at sv
   obtain ⟨P',d1,Q',d2,rfl⟩:=Svl.q0x sv SS.out.lr SS.out.lu
   obtain ⟨Z,zb,zm,zl,zo,zp,zs⟩:=SX.out.join bx by_ sv SS.out.pos
   have BB:=Lib.hid (bx.trans (by_.mono (by omega)))
   have HZ1:=Lib.hid zm;have HZ2:=Lib.hid zl;have HP:=Lib.hid zp;have HV:Hid (∀ b,u3.ownBlock = some b->b < wr.heap.size):=Lib.hid (fun b e=>by
    obtain ⟨Z',_,o,_⟩:=SX.out.ex
    exact (o.lt b e).2)
   have s1:=bx.size;have s2:=by_.size
   have bA:Below wy.heap.size wy (wy.alloc (.cells #[.slice P' n d1,.slice Q' n d2] 32)):=(Below.refl _ _).alloc (Nat.le_refl _) _
   have OA:Hid ((wy.alloc (.cells #[.slice P' n d1,.slice Q' n d2] 32)).ownsRow w.heap.size 32 2 u3 M.length (qbs Z)):=Lib.hid (zo.alloc _)
   have HN:Hid (∀ (j:Nat) u,[Value.slice P' n d1,.slice Q' n d2][j]? = some u->(wy.alloc (.cells #[.slice P' n d1,.slice Q' n d2] 32)).cell? ((⟨wy.heap.size,0,none⟩:Addr).add j) = some u):=Lib.hid (World.news_of_block (Arr.new wy _ _ rfl))
   have h63:M.length + 1<=maxLen:=by unfold maxLen;omega
   have hby:(M.length + 1) * 48<=140737488355328:=by omega
   have hba:w.heap.size<=(wy.alloc (.cells #[.slice P' n d1,.slice Q' n d2] 32)).heap.size:=by simp;omega
   have V1:Hid (∀ u ∈ [Value.slice P' n d1,.slice Q' n d2],u.oneCell' = true):=Lib.hid (by
    intro u hu
    simp at hu
    rcases hu with rfl | rfl <;> rfl)
   clear zm zl zp zs zo sv bx by_ ax bA
   go_wp2_with (at_builtin;refine wpList_append_lies (wy.alloc (.cells #[.slice P' n d1,.slice Q' n d2] 32)) rfl _ _ 28 rfl w.heap.size 32 i0 _ 2 48 sqp.underlying28 hi0 hz0 hz1 hz2 rfl (by decide) u3 M.length (qbs Z) rfl OA.out ⟨wy.heap.size,0,none⟩ 1 1 [.slice P' n d1,.slice Q' n d2] rfl rfl HN.out V1.out (by decide) h63 hby hba (wy.heap.size + 1) (by simp) ?_)
   intro g6 cap6 w6 ho6 hg6 hb6 hl6
   have S6:Hid (Sx w w6 (.slice (some ⟨g6,0,none⟩) (M.length + 1) cap6) n (M ++ [s])):=Lib.hid (SX.out.push BB.out SS.out HZ1.out HZ2.out HP.out ho6 hg6 HV.out hb6)
   clear ho6 hg6 hb6 hl6 OA HN SX HP HV
   go_wp2_with fail
   go_roundw
   case rel=>exact ⟨k + 1,by omega,by go_num,by rw [ET.out];exact S6.out⟩
   case measure=>simp [intOf];omega
  ·obtain rfl:k = L.length:=by omega
   have SE:Hid (Sx w wr u3 n L):=Lib.hid (by have:=SX.out;rwa [List.take_of_length_le (Nat.le_refl _)] at this)
   clear SX
   go_wp2_with fail
   go_ret
   exact ⟨_,rfl,SE.out⟩
theorem q04 {n:Int}:∀ y ∈ swF n,Sf n.toNat y.1 y.2:=by
 intro y hy
 unfold swF at hy
 split at hy
 ·rename_i h
  exact ((qt7 (n:=n.toNat) (by omega) (by omega)).mem y).1 hy |>.1
 ·simp at hy
theorem qyh (n:Int):(swF n).length<=26:=by
 unfold swF
 split
 ·rename_i h
  exact (qt7 (n:=n.toNat) (by omega) (by omega)).num
 ·simp
end Go.Proofs.Ytcdclihinmdgiaa.lst

namespace Go.Proofs.Ytcdclihinmdgiaa.orb
open pm
set_option linter.unusedVariables false
set_option maxRecDepth 100000
def shN:Nat->Sur->Sur
 | 0,s=>s
 | k + 1,s=>qhg (shN k s)
end Go.Proofs.Ytcdclihinmdgiaa.orb
