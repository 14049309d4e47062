import Derived.Test.YtcdclihinmdgiaaZ04
import Derived.Test.YtcdclihinmdgiaaZ21
import Derived.Test.YtcdclihinmdgiaaZ10
import Derived.Test.YtcdclihinmdgiaaZ18
import Derived.Test.YtcdclihinmdgiaaZ09
import Derived.Test.YtcdclihinmdgiaaZ24
import Derived.Great.BuildSlice
import Derived.Test.YtcdclihinmdgiaaZ13
import Derived.Calls
import Derived.WalkKit
import Derived.Conc.LoneCalls
import Derived.DeepKeys5
import Derived.Maps.Own
import Derived.Maps.OwnSet
import Derived.Maps.OwnOps
namespace Go.Proofs.Ytcdclihinmdgiaa.orb
open Go.ChangeShapes Go.WideShapes Go.ChangeAt Go.RowKit
open mem ints arr pm sf gl la
set_option linter.unusedVariables false
set_option maxRecDepth 100000
theorem qxy (w:World) (z:Int) (g:Nat) (hg:w.heap.size = g):Rd (w.alloc (.cells #[.int .i64 z] 53)) (g + 1) (some ⟨g,0,none⟩) 1 (V [z]):=by
 subst hg
 have:=Rd.of_cells (w:=w.alloc (.cells #[.int .i64 z] 53)) (a:=⟨w.heap.size,0,none⟩) (n:=1) (xs:=V [z]) rfl (fun i hi=>by
  obtain rfl:i = 0:=by omega
  exact (Arr.new w (V [z]) 53 rfl).cell rfl)
 simpa using this
theorem qxz:(sqp.prog.info? 43).map (fun i=>(i.zero,i.size,i.bytes)) = some (some (.agg #[.int .i64 0,.int .i64 0,.int .i64 0,.int .i64 0,.int .i64 0,.int .i64 0,.int .i64 0,.int .i64 0,.int .i64 0,.int .i64 0,.int .i64 0,.int .i64 0,.int .i64 0,.int .i64 0,.int .i64 0,.int .i64 0,.int .i64 0,.int .i64 0,.int .i64 0,.int .i64 0,.int .i64 0,.int .i64 0,.int .i64 0,.int .i64 0,.int .i64 0,.int .i64 0,.int .i64 0,.int .i64 0,.int .i64 0,.int .i64 0,.int .i64 0,.int .i64 0,.int .i64 0,.int .i64 0,.int .i64 0,.int .i64 0,.int .i64 0,.int .i64 0,.int .i64 0,.int .i64 0,.int .i64 0,.int .i64 0,.int .i64 0,.int .i64 0,.int .i64 0,.int .i64 0,.int .i64 0,.int .i64 0,.int .i64 0]),49,392):=by kernel_rfl
def fs (s:Sur) (n k:Nat):List Value:=(List.range k).flatMap fun j=>V (gS (cn (shN j s)) n)
theorem qy1 {n:Nat} {s t:Sur} (h1:Sf n s.1 s.2) (h2:Sf n t.1 t.2) (w:World) :
  (Op.equalIn 10000 43 (.agg (V (gS s n)).toArray) (.agg (V (gS t n)).toArray)).run sqp.prog w = .ok (decide (s = t)) w:=by
 unfold gS
 rw [q1p (qc _) (qc _) (qc _) (qc _)]
 congr 1
 rw [decide_eq_decide]
 constructor
 ·rintro ⟨q1,q2⟩
  have hn:n<=24:=by have:=h1.r.len;rw [h1.lr] at this;exact this
  exact Prod.ext (qax (by rw [h1.lr,h2.lr]) (by rw [h1.lr];exact hn) q1) (qax (by rw [h1.lu,h2.lu]) (by rw [h1.lu];exact hn) q2)
 ·intro q;rw [q];exact ⟨rfl,rfl⟩
theorem qck {ops:Array Oper} {rest:List Oper} {o:Oper} {a:Act} {w:World} {Q:Exit->Act->World->Prop} (hgd:o.guard = none) (x:Operand) (ho:o.op = .buildSlice 44 1 #[(0,x)])
  (L:List Int) (hL:L.length = 49) (hx:a.eval x = .agg (V L).toArray)
  (h:wpList sqp.prog ops Q rest (a.put o.dst (.slice (some ⟨w.heap.size,0,none⟩) 1 1)) (w.alloc (.cells (V L).toArray 43))):wpList sqp.prog ops Q (o :: rest) a w:=by
 obtain ⟨i,hi,hz,hs,hb⟩:=info_parts qxz
 refine wpList_buildSlice hgd 44 43 1 _ ho (V L).toArray i _ sqp.underlying44 hi hz (by rw [hs];decide) (by rw [hs];decide) ?_ h
 rw [hs]
 have:=Great.fill_whole (s:=49) (by decide) [.agg (V L).toArray] ((Array.range (1 * 49)).map ((Value.agg #[.int .i64 0,.int .i64 0,.int .i64 0,.int .i64 0,.int .i64 0,.int .i64 0,.int .i64 0,.int .i64 0,.int .i64 0,.int .i64 0,.int .i64 0,.int .i64 0,.int .i64 0,.int .i64 0,.int .i64 0,.int .i64 0,.int .i64 0,.int .i64 0,.int .i64 0,.int .i64 0,.int .i64 0,.int .i64 0,.int .i64 0,.int .i64 0,.int .i64 0,.int .i64 0,.int .i64 0,.int .i64 0,.int .i64 0,.int .i64 0,.int .i64 0,.int .i64 0,.int .i64 0,.int .i64 0,.int .i64 0,.int .i64 0,.int .i64 0,.int .i64 0,.int .i64 0,.int .i64 0,.int .i64 0,.int .i64 0,.int .i64 0,.int .i64 0,.int .i64 0,.int .i64 0,.int .i64 0,.int .i64 0,.int .i64 0]).cells[· % (Value.agg #[.int .i64 0,.int .i64 0,.int .i64 0,.int .i64 0,.int .i64 0,.int .i64 0,.int .i64 0,.int .i64 0,.int .i64 0,.int .i64 0,.int .i64 0,.int .i64 0,.int .i64 0,.int .i64 0,.int .i64 0,.int .i64 0,.int .i64 0,.int .i64 0,.int .i64 0,.int .i64 0,.int .i64 0,.int .i64 0,.int .i64 0,.int .i64 0,.int .i64 0,.int .i64 0,.int .i64 0,.int .i64 0,.int .i64 0,.int .i64 0,.int .i64 0,.int .i64 0,.int .i64 0,.int .i64 0,.int .i64 0,.int .i64 0,.int .i64 0,.int .i64 0,.int .i64 0,.int .i64 0,.int .i64 0,.int .i64 0,.int .i64 0,.int .i64 0,.int .i64 0,.int .i64 0,.int .i64 0,.int .i64 0,.int .i64 0]).cells.size]!)) (by simp [Value.cells,q8,hL]) (by simp)
 simpa [hx,Value.cells] using this
theorem qm3 (s:Sur) (n:Nat) (w:World) (hs:Sf n s.1 s.2) :
  Calls sqp.prog 34 #[.agg (V (gS s n)).toArray] w fun e w'=>e = .returned (.agg (V (gS (cn s) n)).toArray)/\Below w.heap.size w w':=qnl s.1 s.2 n w hs
def qji:Value->Nat
 | .slice _ n _=>n
 | _=>0
end Go.Proofs.Ytcdclihinmdgiaa.orb

namespace Go.Proofs.Ytcdclihinmdgiaa.gl
open Go.ChangeShapes Go.WideShapes Go.ChangeAt Go.RowKit
open mem ints arr pm permOk permOf inv fns sf
set_option linter.unusedVariables false
set_option maxRecDepth 100000
set_option maxHeartbeats 1000000 in
theorem q1m {p q p' q':List Int} (hp:p.length = 24) (hq:q.length = 24) (hp':p'.length = 24) (hq':q'.length = 24) (n n':Nat) (w:World) :
  (Op.equalIn 10000 43 (.agg (V (gl p q n)).toArray) (.agg (V (gl p' q' n')).toArray)).run sqp.prog w = .ok (decide (p = p'/\q = q'/\n = n')) w:=by
 have hf:(sqp.prog.fieldsOf 43).toList.map (fun f=>(f.name,f.type,f.offset)) = [("right",41,0),("up",41,24),("count",3,48)]:=by kernel_rfl
 rw [run_equalIn_struct w 9999 _ _ _ (by kernel_rfl) (by kernel_rfl)]
 generalize (sqp.prog.fieldsOf 43).toList = fs at hf
 have hl:fs.length = 3:=by have:=congrArg List.length hf;simpa using this
 match fs,hl,hf with
 | [f0,f1,f2],_,hf =>
  simp only [List.map_cons,List.map_nil,List.cons.injEq,Prod.mk.injEq,and_true] at hf
  obtain ⟨⟨a1,a2,a3⟩,⟨b1,b2,b3⟩,c1,c2,c3⟩:=hf
  have x1:∀ {r s:List Int} (n:Nat),r.length = 24->s.length = 24->(V (gl r s n)).toArray.extract 0 (0 + 24) = (V r).toArray:=fun _ hr hs=>ql2 (by simp [gl,hr])
  have x2:∀ {r s:List Int} (n:Nat),r.length = 24->s.length = 24->(V (gl r s n)).toArray.extract 24 (24 + 24) = (V s).toArray:=fun _ hr hs=>ql2 (by simp [gl,hr,hs])
  have x3:∀ {r s:List Int} (n:Nat),r.length = 24->s.length = 24->(V (gl r s n)).toArray[48]? = some (.int .i64 n):=fun _ hr hs=>by
   simp only [gl,V,List.map_append,List.getElem?_toArray]
   rw [List.getElem?_append_right (by simp;omega)]
   simp [hr,hs]
  have e3:(Op.equalIn 9999 3 (.int .i64 n) (.int .i64 n')).run sqp.prog w = .ok ((n:Int) == (n':Int)) w:=run_equalIn_int w 9998 _ .i64 .i64 _ _ sqp.underlying3
  have n1:(("right":String) ≠ "_") = True:=by simp
  have n2:(("up":String) ≠ "_") = True:=by simp
  have n3:(("count":String) ≠ "_") = True:=by simp
  have e1':(Op.equalIn 9999 41 (.agg (V p).toArray) (.agg (V p').toArray)).run sqp.prog w = .ok (decide (p = p')) w:=qeq hp hp' 9997 w
  have e2':(Op.equalIn 9999 41 (.agg (V q).toArray) (.agg (V q').toArray)).run sqp.prog w = .ok (decide (q = q')) w:=qeq hq hq' 9997 w
  simp only [Op.eqFields,n1,n2,n3,if_true,a1,a2,a3,b1,b2,b3,c1,c2,c3,Sem.run_bind,qcm,x1 n hp hq,x1 n' hp' hq',Result.andThen_ok,e1']
  by_cases h1:p = p'
  ·simp only [decide_eq_true h1,Bool.not_true,Bool.false_eq_true,if_false,Sem.run_bind,qcm,x2 n hp hq,x2 n' hp' hq',Result.andThen_ok,e2']
   by_cases h2:q = q'
   ·simp only [decide_eq_true h2,Bool.not_true,Bool.false_eq_true,if_false,Sem.run_bind,mh (x3 n hp hq),mh (x3 n' hp' hq'),Result.andThen_ok,e3]
    by_cases h3:n = n'
    ·have:((n:Int) == (n':Int)) = true:=by simp [h3]
     simp only [this,Bool.not_true,Bool.false_eq_true,if_false,Sem.run_pure]
     rw [decide_eq_true (show p = p'/\q = q'/\n = n' from ⟨h1,h2,h3⟩)]
    ·have:((n:Int) == (n':Int)) = false:=by simp;omega
     simp only [this,Bool.not_false,if_true,Sem.run_pure]
     rw [decide_eq_false (fun h=>h3 h.2.2)]
   ·simp only [decide_eq_false h2,Bool.not_false,if_true,Sem.run_pure]
    rw [decide_eq_false (fun h=>h2 h.2.1)]
  ·simp only [decide_eq_false h1,Bool.not_false,if_true,Sem.run_pure]
   rw [decide_eq_false (fun h=>h1 h.1)]
theorem qy1 {r u r' u':List Int} {n n':Nat} (h:0 < n) (h':0 < n') (l:n<=24) (l':n'<=24) (w:World) :
  (Op.equalIn 10000 43 (.agg (V (cn r u n)).toArray) (.agg (V (cn r' u' n')).toArray)).run sqp.prog w = .ok (qiz (can r u n).1 (can r u n).2 (can r' u' n').1 (can r' u' n').2) w:=by
 unfold cn
 rw [q1m (qc _) (qc _) (qc _) (qc _)]
 obtain ⟨a1,a2⟩:=qq4 r u h
 obtain ⟨b1,b2⟩:=qq4 r' u' h'
 congr 1
 unfold qiz eqi
 rw [<-Bool.decide_and,decide_eq_decide]
 constructor
 ·rintro ⟨q1,q2,rfl⟩
  exact ⟨qax (by rw [a1,b1]) (by omega) q1,qax (by rw [a2,b2]) (by omega) q2⟩
 ·rintro ⟨q1,q2⟩
  exact ⟨by rw [q1],by rw [q2],by rw [<-a1,<-b1,q1]⟩
end Go.Proofs.Ytcdclihinmdgiaa.gl

namespace Go.Proofs.Ytcdclihinmdgiaa.ch
open Go.Conc Go.RowKit mem
set_option linter.unusedVariables false
set_option maxRecDepth 100000
def Rw (P:Program) (ops:Array Oper) (l:List Nat) (Q:Exit->Act->World->Prop) (a:Act) (w:World):Prop :=
 ∀ (b:Frame) (k:List Item) (cs:List Frame),∃ e a' w',Q e a' w'/\Arrives P (lone (b.at a (.inRegion ops l :: k)) cs w) b k cs e a' w'
section
variable {P:Program} {ops:Array Oper} {Q:Exit->Act->World->Prop} {a:Act} {w:World} {i:Nat} {rest:List Nat} {o:Oper}
def isComm:Op->Bool
 | .send ..=>true
 | .recv ..=>true
 | .call { callee:=.builtin .close,.. }=>true
 | _=>false
theorem region {id:Nat} (hc:ops.toList.any (fun o=>isComm o.op) = true) (h:Rw P ops (List.range ops.size) Q a w):(Code.region id ops false).wp P Q a w :=
 fun b k cs=>let ⟨e,a',w',q,r⟩:=h b k cs;⟨e,a',w',q,.of_steps (.one step_region) r⟩
theorem Rw.nil (h:Q .normal a w):Rw P ops [] Q a w:=fun b k cs=>⟨.normal,a,w,h,.one step_region_end⟩
theorem Rw.op (ho:ops[i]? = some o) (hw:Region.wanted o (yielded ops a.tmps) = true)
  (h:∀ K:Act->World->Prop,(∀ a w,Rw P ops rest Q a w->K a w)->o.wp P a w K (fun _ _ _=>False)):Rw P ops (i :: rest) Q a w:=by
 intro b k cs
 have h:=h _ (fun _ _ h=>h)
 simp only [Oper.wp,Oper.upon] at h
 have hg:=stepG_op (P:=P) (b:=b) (k:=k) (cs:=cs) (w:=w) (rest:=rest) ho hw
 have hfin:∀ v,(b.at a (.inRegion ops (i :: rest) :: k)).finish v = b.at (a.put o.dst v) (.inRegion ops rest :: k):=by
  intro v;rw [Frame.finish_at,ho];rfl
 split at h
 ·rename_i v w' hr
  obtain ⟨e,a',w'',q,r⟩:=h b k cs
  refine ⟨e,a',w'',q,.of_steps (.one (step_lone_go ?_)) r⟩
  rw [hg,<-hfin];simp [stepG.apply,hr]
 ·rename_i w' hr
  obtain ⟨e,a',w'',q,r⟩:=h b k cs
  refine ⟨e,a',w'',q,.of_steps (.one (step_lone_go ?_)) r⟩
  rw [hg,<-hfin];simp [stepG.apply,hr]
 ·rename_i d w' hr
  obtain ⟨e,a',w'',q,r⟩:=h b k cs
  refine ⟨e,a',w'',q,.of_steps (.one (step_lone_go ?_)) r⟩
  have:=Frame.finish_at b { a with defers:=d :: a.defers } ops i rest k undef
  rw [ho] at this
  rw [hg];simp only [stepG.apply,Sem.runT_eq,hr,GStep.bare_after]
  exact congrArg (fun fr=>GStep.go { frame:=fr,callers:=cs,status:=.running,dying:=none } w') this
 ·rename_i f args w' hr
  obtain ⟨e,w'',fr,hR,hs,_,hl⟩:=h (b.at a (.inRegion ops (i :: rest) :: k) :: cs)
  cases e with
  | returned v =>
   obtain ⟨e,a',w₃,q,r⟩:=hR b k cs
   refine ⟨e,a',w₃,q,.of_steps (.head (step_lone_go (by rw [hg];simp [stepG.apply,hr,Frame.at])) (hs.trans (.one ?_))) r⟩
   rw [<-hfin];exact step_leave_returned hl
  | panicked chain=>exact hR.elim
  | outgrown=>obtain ⟨_,_,q⟩:=hR;exact q.elim
 ·rename_i row args w' hr
  obtain ⟨v,w'',hR,hs⟩:=h (b.at a (.inRegion ops (i :: rest) :: k)) cs
  obtain ⟨e,a',w₃,q,r⟩:=hR b k cs
  have he:step P (lone (b.at a (.inRegion ops (i :: rest) :: k)) cs w) = .next (lone (Frame.ofRow P row args .normal) (b.at a (.inRegion ops (i :: rest) :: k) :: cs) w') :=
   step_lone_go (by rw [hg];simp [stepG.apply,hr,Frame.at])
  refine ⟨e,a',w₃,q,.of_steps (.head he ?_) r⟩
  rw [<-hfin];exact hs
 ·exact h.elim
 ·exact h.elim
theorem comm {cases:Array CommCase} {blocking:Bool} {shape:CommShape} {w':World} (ho:ops[i]? = some o) (hw:Region.wanted o (yielded ops a.tmps) = true)
  (hr:(execOp a.eval o).run P w = .ok (.comm cases blocking shape) w') (b:Frame) (k:List Item) (cs:List Frame) :
  ∃ es,stepG P true (G (b.at a (.inRegion ops (i :: rest) :: k)) cs) w = .comm (G (b.at a (.inRegion ops (i :: rest) :: k)) cs) cases blocking shape w' es:=by
 rw [stepG_oper ho hw]
 simp only [stepG.apply,Sem.runT_eq,hr]
 split <;> exact ⟨_,rfl⟩
variable {c cap s r:Nat} {buf:Array Value} {z z' v:Value} {tm closed:Bool} {w₁:World}
theorem Rw.send (ho:ops[i]? = some o) (hw:Region.wanted o (yielded ops a.tmps) = true) (hr:(execOp a.eval o).run P w = .ok (.comm #[scase c v z'] true .send) w₁)
  (hc:w₁.heap[c]? = some (.chan cap buf false s r tm)) (hroom:buf.size < cap) (h:Rw P ops rest Q (a.put o.dst undef) (w₁.setChan c cap (buf.push v) false (s + 1) r tm)) :
  Rw P ops (i :: rest) Q a w:=by
 intro b k cs
 obtain ⟨es,hg⟩:=comm (rest:=rest) ho hw hr b k cs
 obtain ⟨e,a',w',q,h⟩:=h b k cs
 refine ⟨e,a',w',q,.of_steps (.one ?_) h⟩
 have hfin:(b.at a (.inRegion ops (i :: rest) :: k)).finish undef = b.at (a.put o.dst undef) (.inRegion ops rest :: k):=by rw [Frame.finish_at,ho];rfl
 have:=step_lone_send_room hg hc hroom
 rw [hfin] at this
 exact this
theorem Rw.recv (ok:Bool) (ho:ops[i]? = some o) (hw:Region.wanted o (yielded ops a.tmps) = true) (hr:(execOp a.eval o).run P w = .ok (.comm #[rcase c z] true (.recv ok)) w₁)
  (hc:w₁.heap[c]? = some (.chan cap buf closed s r tm)) (hsome:0 < buf.size) (h:Rw P ops rest Q (a.put o.dst (got ok (buf.getD 0 undef) true)) (w₁.setChan c cap (buf.extract 1 buf.size) closed s (r + 1) tm)) :
  Rw P ops (i :: rest) Q a w:=by
 intro b k cs
 obtain ⟨es,hg⟩:=comm (rest:=rest) ho hw hr b k cs
 obtain ⟨e,a',w',q,h⟩:=h b k cs
 refine ⟨e,a',w',q,.of_steps (.one ?_) h⟩
 have hfin:∀ v,(b.at a (.inRegion ops (i :: rest) :: k)).finish v = b.at (a.put o.dst v) (.inRegion ops rest :: k):=by intro v;rw [Frame.finish_at,ho];rfl
 have:=step_lone_recv_buf ok hg hc hsome
 rw [hfin] at this
 exact this
theorem Rw.shut (ok:Bool) (ho:ops[i]? = some o) (hw:Region.wanted o (yielded ops a.tmps) = true) (hr:(execOp a.eval o).run P w = .ok (.comm #[rcase c z] true (.recv ok)) w₁)
  (hc:w₁.heap[c]? = some (.chan cap #[] true s r tm)) (h:Rw P ops rest Q (a.put o.dst (got ok z false)) w₁) :
  Rw P ops (i :: rest) Q a w:=by
 intro b k cs
 obtain ⟨es,hg⟩:=comm (rest:=rest) ho hw hr b k cs
 obtain ⟨e,a',w',q,h⟩:=h b k cs
 refine ⟨e,a',w',q,.of_steps (.one ?_) h⟩
 have hfin:∀ v,(b.at a (.inRegion ops (i :: rest) :: k)).finish v = b.at (a.put o.dst v) (.inRegion ops rest :: k):=by intro v;rw [Frame.finish_at,ho];rfl
 have:=step_lone_recv_shut ok hg hc
 rw [hfin] at this
 exact this
end
theorem mk {P:Program} {t e:TypeId} {dir:ChanDir} (ht:P.underlying t = some (.chan dir e)) {B:Nat} (hB:(P.info? e).map (·.bytes) = some B) (n:Nat) (h63:(n:Int)<=9223372036854775807) (hb:(B:Int) * n<=281474976710544)
  (m:Int) (hm:m = n) (w:World):(Instr.makeChan t (.int .i64 m)).run P w = .ok (.chan (some w.heap.size)) (w.alloc (.chan n #[] false 0 0 false)):=by
 obtain ⟨i,hi,e⟩:=Option.map_eq_some_iff.1 hB
 rw [hm]
 exact run_makeChan ht hi .i64 n h63 (by rw [e];exact hb)
def Chn (w:World) (c cap:Nat) (vs:List Value) (closed:Bool):Prop:=∃ s r,w.heap[c]? = some (.chan cap vs.toArray closed s r false)
theorem Chn.lt {w:World} {c cap:Nat} {vs:List Value} {closed:Bool} (h:Chn w c cap vs closed):c < w.heap.size:=by
 obtain ⟨s,r,h⟩:=h;exact (Array.getElem?_eq_some_iff.1 h).1
theorem Chn.keep {w w':World} {c cap B:Nat} {vs:List Value} {closed:Bool} (h:Chn w c cap vs closed) (hb:Below B w w') (hB:c < B):Chn w' c cap vs closed:=by
 obtain ⟨s,r,h⟩:=h;exact ⟨s,r,(hb.block c hB).trans h⟩
theorem Chn.new (w:World) (cap:Nat):Chn (w.alloc (.chan cap #[] false 0 0 false)) w.heap.size cap [] false:=⟨0,0,heap_alloc_new _ _⟩
theorem qdo (w:World) (c cap:Nat) (buf:Array Value) (cl:Bool) (s r:Nat) (tm:Bool):Out c (c + 1) w (w.setChan c cap buf cl s r tm) :=
 ⟨rfl,rfl,rfl,by simp [World.setChan],fun k hk h=>by simp only [World.setChan];rw [Array.getElem?_setIfInBounds_ne (by omega)]⟩
section
variable {P:Program} {ops:Array Oper} {Q:Exit->Act->World->Prop} {a:Act} {w:World} {i:Nat} {rest:List Nat} {o:Oper} {c cap:Nat} {vs:List Value} {z z' v:Value} {closed:Bool} {w₁:World}
theorem Rw.q05 (ho:ops[i]? = some o) (hw:Region.wanted o (yielded ops a.tmps) = true) (hr:(execOp a.eval o).run P w = .ok (.comm #[scase c v z'] true .send) w₁)
  (hc:Chn w₁ c cap vs false) (hroom:vs.length < cap) (h:∀ w',Chn w' c cap (vs ++ [v]) false->Out c (c + 1) w₁ w'->Rw P ops rest Q (a.put o.dst undef) w'):Rw P ops (i :: rest) Q a w:=by
 have l:=hc.lt
 obtain ⟨s,r,hc⟩:=hc
 exact Rw.send ho hw hr hc (by simpa using hroom) (h _ ⟨s + 1,r,by rw [heap_setChan _ _ _ _ _ _ _ _ l];simp⟩ (qdo _ _ _ _ _ _ _ _))
theorem Rw.q06 (ok:Bool) (ho:ops[i]? = some o) (hw:Region.wanted o (yielded ops a.tmps) = true) (hr:(execOp a.eval o).run P w = .ok (.comm #[rcase c z] true (.recv ok)) w₁)
  (hc:Chn w₁ c cap (v :: vs) closed) (h:∀ w',Chn w' c cap vs closed->Out c (c + 1) w₁ w'->Rw P ops rest Q (a.put o.dst (got ok v true)) w'):Rw P ops (i :: rest) Q a w:=by
 have l:=hc.lt
 obtain ⟨s,r,hc⟩:=hc
 refine Rw.recv ok ho hw hr hc (by simp) ?_
 have e:(v :: vs).toArray.getD 0 undef = v:=by simp
 rw [e]
 exact h _ ⟨s,r + 1,by rw [heap_setChan _ _ _ _ _ _ _ _ l];simp⟩ (qdo _ _ _ _ _ _ _ _)
theorem Rw.q3e (ok:Bool) (ho:ops[i]? = some o) (hw:Region.wanted o (yielded ops a.tmps) = true) (hr:(execOp a.eval o).run P w = .ok (.comm #[rcase c z] true (.recv ok)) w₁)
  (hc:Chn w₁ c cap [] true) (h:Rw P ops rest Q (a.put o.dst (got ok z false)) w₁):Rw P ops (i :: rest) Q a w:=by
 obtain ⟨s,r,hc⟩:=hc
 exact Rw.shut ok ho hw hr hc h
theorem Rw.qw8 {ats:Array TypeId} {x:Tmp} (ho:ops[i]? = some o) (hg:o.guard = none) (hop:o.op = .call { callee:=.builtin .close,args:=#[.tmp x],argTypes:=ats }) (hx:a.eval (.tmp x) = .chan (some c))
  (hc:Chn w c cap vs false) (h:∀ w',Chn w' c cap vs true->Out c (c + 1) w w'->Rw P ops rest Q (a.put o.dst (.tuple #[])) w'):Rw P ops (i :: rest) Q a w:=by
 have l:=hc.lt
 obtain ⟨s,r,hc⟩:=hc
 have hcl:=fun ats ty=>run_close_open (P:=P) (w:=w) ats ty hc
 refine Rw.op ho (by simp [Region.wanted,hg]) (fun K hK=>?_)
 have h2:=hK _ _ (h (w.setChan c cap vs.toArray true s r false) ⟨s,r,heap_setChan _ _ _ _ _ _ _ _ l⟩ (qdo _ _ _ _ _ _ _ _))
 simp [go_sem] at hx
 simp only [Oper.wp,execOp,hop]
 simp [go_sem,hx,hcl]
 exact h2
end
attribute [irreducible] Rw
structure Stop (p:Prop):Prop where
 out:p
theorem stop {P:Program} {id:Nat} {ops:Array Oper} {Q:Exit->Act->World->Prop} {a:Act} {w:World} (hc:ops.toList.any (fun o=>isComm o.op) = true) (h:Stop (Rw P ops (List.range ops.size) Q a w)):(Code.region id ops false).wp P Q a w:=region hc h.out
theorem Rw.plain {P:Program} {ops:Array Oper} {Q:Exit->Act->World->Prop} {a:Act} {w w':World} {i:Nat} {rest:List Nat} {o:Oper} {v:Value} (ho:ops[i]? = some o) (hw:Region.wanted o (yielded ops a.tmps) = true) (hr:(execOp a.eval o).run P w = .ok (.value v) w')
  (h:Rw P ops rest Q (a.put o.dst v) w'):Rw P ops (i :: rest) Q a w:=Rw.op ho hw fun K hK=>by simp only [Oper.wp,Oper.upon,hr];exact hK _ _ h
end Go.Proofs.Ytcdclihinmdgiaa.ch

namespace Go.Proofs.Ytcdclihinmdgiaa.orb
open Go.ChangeShapes Go.WideShapes Go.ChangeAt Go.RowKit
open mem ints arr pm sf gl
set_option linter.unusedVariables false
set_option maxRecDepth 100000
def fdL (s:Sur) (n p l:Nat):List Int:=gS s n ++ [(p:Int),(l:Int)]
theorem qb0 (s:Sur) (n p l:Nat):(fdL s n p l).length = 51:=by simp [fdL,qaq]
set_option maxHeartbeats 1000000 in
theorem q1u {p q:List Int} (hp:p.length = 24) (hq:q.length = 24) (n:Nat) (w:World) :
  (Op.equalIn 9999 43 (.agg (V (gl p q n)).toArray) (.agg (V (gl p q n)).toArray)).run sqp.prog w = .ok true w:=by
 have hf:(sqp.prog.fieldsOf 43).toList.map (fun f=>(f.name,f.type,f.offset)) = [("right",41,0),("up",41,24),("count",3,48)]:=by kernel_rfl
 rw [run_equalIn_struct w 9998 _ _ _ (by kernel_rfl) (by kernel_rfl)]
 generalize (sqp.prog.fieldsOf 43).toList = fs at hf
 have hl:fs.length = 3:=by have:=congrArg List.length hf;simpa using this
 match fs,hl,hf with
 | [f0,f1,f2],_,hf =>
  simp only [List.map_cons,List.map_nil,List.cons.injEq,Prod.mk.injEq,and_true] at hf
  obtain ⟨⟨a1,a2,a3⟩,⟨b1,b2,b3⟩,c1,c2,c3⟩:=hf
  have x1:(V (gl p q n)).toArray.extract 0 (0 + 24) = (V p).toArray:=ql2 (by simp [gl,hp])
  have x2:(V (gl p q n)).toArray.extract 24 (24 + 24) = (V q).toArray:=ql2 (by simp [gl,hp,hq])
  have x3:(V (gl p q n)).toArray[48]? = some (.int .i64 n):=by
   simp only [gl,V,List.map_append,List.getElem?_toArray]
   rw [List.getElem?_append_right (by simp;omega)]
   simp [hp,hq]
  have e3:(Op.equalIn 9998 3 (.int .i64 n) (.int .i64 n)).run sqp.prog w = .ok ((n:Int) == (n:Int)) w:=run_equalIn_int w 9997 _ .i64 .i64 _ _ sqp.underlying3
  have n1:(("right":String) ≠ "_") = True:=by simp
  have n2:(("up":String) ≠ "_") = True:=by simp
  have n3:(("count":String) ≠ "_") = True:=by simp
  have e1':(Op.equalIn 9998 41 (.agg (V p).toArray) (.agg (V p).toArray)).run sqp.prog w = .ok (decide (p = p)) w:=qeq hp hp 9996 w
  have e2':(Op.equalIn 9998 41 (.agg (V q).toArray) (.agg (V q).toArray)).run sqp.prog w = .ok (decide (q = q)) w:=qeq hq hq 9996 w
  simp only [Op.eqFields,n1,n2,n3,if_true,a1,a2,a3,b1,b2,b3,c1,c2,c3,Sem.run_bind,qcm,x1,x2,Result.andThen_ok,e1',e2',mh x3,e3,decide_true,Bool.not_true,Bool.false_eq_true,if_false,beq_self_eq_true,Sem.run_pure]
theorem qzj (xs:Array Value) (off:Nat) (w:World):(part 43 xs off).run sqp.prog w = .ok (.agg (xs.extract off (off + 49))) w:=by
 unfold part
 simp [Sem.run_bind]
theorem qvg {xs:Array Value} {off:Nat} {v:Value} (h:xs[off]? = some v) (w:World):(part 53 xs off).run sqp.prog w = .ok v w:=by
 unfold part
 simp [Sem.run_bind,h]
set_option maxHeartbeats 1000000 in
theorem q3n (s:Sur) (n p l:Nat) (w:World):(Op.equalIn 10000 55 (.agg (V (fdL s n p l)).toArray) (.agg (V (fdL s n p l)).toArray)).run sqp.prog w = .ok true w:=by
 have hf:(sqp.prog.fieldsOf 55).toList.map (fun f=>(f.name,f.type,f.offset)) = [("form",43,0),("from",3,49),("by",53,50)]:=by kernel_rfl
 rw [run_equalIn_struct w 9999 _ _ _ (by kernel_rfl) (by kernel_rfl)]
 generalize (sqp.prog.fieldsOf 55).toList = fs at hf
 have hl:fs.length = 3:=by have:=congrArg List.length hf;simpa using this
 match fs,hl,hf with
 | [f0,f1,f2],_,hf =>
  simp only [List.map_cons,List.map_nil,List.cons.injEq,Prod.mk.injEq,and_true] at hf
  obtain ⟨⟨a1,a2,a3⟩,⟨b1,b2,b3⟩,c1,c2,c3⟩:=hf
  have G:=qaq s n
  have x1:(V (fdL s n p l)).toArray.extract 0 (0 + 49) = (V (gS s n)).toArray:=ql2 (by simp [fdL,G])
  have x2:(V (fdL s n p l)).toArray[49]? = some (.int .i64 p):=by
   simp only [fdL,V,List.map_append,List.getElem?_toArray]
   rw [List.getElem?_append_right (by simp;omega)]
   simp [G]
  have x3:(V (fdL s n p l)).toArray[50]? = some (.int .i64 l):=by
   simp only [fdL,V,List.map_append,List.getElem?_toArray]
   rw [List.getElem?_append_right (by simp;omega)]
   simp [G]
  have e1:(Op.equalIn 9999 43 (.agg (V (gS s n)).toArray) (.agg (V (gS s n)).toArray)).run sqp.prog w = .ok true w:=q1u (qc _) (qc _) n w
  have e2:(Op.equalIn 9999 3 (.int .i64 p) (.int .i64 p)).run sqp.prog w = .ok ((p:Int) == (p:Int)) w:=run_equalIn_int w 9998 _ .i64 .i64 _ _ sqp.underlying3
  have e3:(Op.equalIn 9999 53 (.int .i64 l) (.int .i64 l)).run sqp.prog w = .ok ((l:Int) == (l:Int)) w:=run_equalIn_int w 9998 _ .i64 .i64 _ _ sqp.underlying53
  have n1:(("form":String) ≠ "_") = True:=by simp
  have n2:(("from":String) ≠ "_") = True:=by simp
  have n3:(("by":String) ≠ "_") = True:=by simp
  simp only [Op.eqFields,n1,n2,n3,if_true,a1,a2,a3,b1,b2,b3,c1,c2,c3,Sem.run_bind,qzj,mh x2,qvg x3,x1,Result.andThen_ok,e1,e2,e3,Bool.not_true,Bool.false_eq_true,if_false,beq_self_eq_true,Sem.run_pure]
def qcb:List Int:=List.replicate 51 0
theorem qn7:(sqp.prog.info? 55).map (fun i=>(i.zero,i.size,i.bytes)) = some (some (.agg (V qcb).toArray),51,408):=by kernel_rfl
theorem qkj {ops:Array Oper} {rest:List Oper} {o:Oper} {a:Act} {w:World} {Q:Exit->Act->World->Prop} (hgd:o.guard = none) (x:Operand) (ho:o.op = .buildSlice 48 1 #[(0,x)])
  (L:List Int) (hL:L.length = 51) (hx:a.eval x = .agg (V L).toArray)
  (h:wpList sqp.prog ops Q rest (a.put o.dst (.slice (some ⟨w.heap.size,0,none⟩) 1 1)) (w.alloc (.cells (V L).toArray 55))):wpList sqp.prog ops Q (o :: rest) a w:=by
 obtain ⟨i,hi,hz,hs,hb⟩:=info_parts qn7
 refine wpList_buildSlice hgd 48 55 1 _ ho (V L).toArray i _ sqp.underlying48 hi hz (by rw [hs];decide) (by rw [hs];decide) ?_ h
 rw [hs]
 have:=Great.fill_whole (s:=51) (by decide) [.agg (V L).toArray] ((Array.range (1 * 51)).map ((Value.agg (V qcb).toArray).cells[· % (Value.agg (V qcb).toArray).cells.size]!)) (by simp [Value.cells,q8,hL]) (by simp)
 simpa [hx,Value.cells] using this
theorem qiu {ops:Array Oper} {rest:List Oper} {o:Oper} {a:Act} {w:World} {Q:Exit->Act->World->Prop} (hgd:o.guard = none) (x y:Operand) (rt:TypeId) (ho:o.op = .binOp .eql 55 x y rt)
  (xs ys:Array Value) (hx:a.eval x = .agg xs) (hy:a.eval y = .agg ys) (b:Bool) (he:(Op.equalIn 10000 55 (.agg xs) (.agg ys)).run sqp.prog w = .ok b w)
  (h:wpList sqp.prog ops Q rest (a.put o.dst (.bool b)) w):wpList sqp.prog ops Q (o :: rest) a w:=by
 refine wpList_plain hgd fun K hK=>?_
 unfold Oper.wp execOp
 simp only [ho,hx,hy,Sem.run_bind,run_eqGuard_agg w .eql _ x y xs ys (show sqp.prog.eqGuardType sqp.prog.depth 55 = false by kernel_rfl),Result.andThen_ok,run_eql_struct,he,Sem.run_pure]
 exact hK _ _ h
theorem qd1 {ops:Array Oper} {rest:List Oper} {o:Oper} {a:Act} {w:World} {Q:Exit->Act->World->Prop} (hgd:o.guard = none) (x y:Operand) (rt:TypeId) (ho:o.op = .binOp .eql 43 x y rt)
  (xs ys:Array Value) (hx:a.eval x = .agg xs) (hy:a.eval y = .agg ys) (b:Bool) (he:(Op.equalIn 10000 43 (.agg xs) (.agg ys)).run sqp.prog w = .ok b w)
  (h:wpList sqp.prog ops Q rest (a.put o.dst (.bool b)) w):wpList sqp.prog ops Q (o :: rest) a w:=by
 refine wpList_plain hgd fun K hK=>?_
 unfold Oper.wp execOp
 simp only [ho,hx,hy,Sem.run_bind,run_eqGuard_agg w .eql _ x y xs ys (show sqp.prog.eqGuardType sqp.prog.depth 43 = false by kernel_rfl),Result.andThen_ok,run_eql_struct,he,Sem.run_pure]
 exact hK _ _ h
end Go.Proofs.Ytcdclihinmdgiaa.orb

namespace Go.Proofs.Ytcdclihinmdgiaa.orb
open Go.ChangeShapes Go.WideShapes Go.ChangeAt Go.RowKit
open mem ints arr pm sf gl
open Go.Proofs.Ytcdclihinmdgiaa.ch (Chn)
set_option linter.unusedVariables false
set_option maxRecDepth 100000
@[simp] theorem q3o (args:Array Value) (w:World):Sem.run sqp.prog (callFunc sq.nfn args) w = .ok (.enter sq.nfn args) w:=by kernel_rfl
@[simp] theorem q4c (args:Array Value) (w:World):Sem.run sqp.prog (callFunc (sq.nfn + 1) args) w = .ok (.enter (sq.nfn + 1) args) w:=by kernel_rfl
set_option maxHeartbeats 1000000 in
theorem qzk (c:Nat) (vs:List Value) (s:Sur) (n p l:Nat) (u:Value) (w:World) (hc:Chn w c 1000 vs false) (hr:vs.length < 1000) :
  Calls sqp.prog sq.nfn #[.chan (some c),.agg (V (fdL s n p l)).toArray,u,.bool true,.bool false] w fun e w'=>e = .returned (.tuple #[])/\Chn w' c 1000 (vs ++ [.agg (V (fdL s n p l)).toArray]) false/\Out c (c + 1) w w':=by
 have L51:=qb0 s n p l
 have EQ:Hid (∀ W,(Op.equalIn 10000 55 (.agg (V (fdL s n p l)).toArray) (.agg (V (fdL s n p l)).toArray)).run sqp.prog W = .ok true W):=Lib.hid (fun W=>q3n s n p l W)
 generalize fdL s n p l = L at *
 have HC:=Lib.hid hc;clear hc
 have HR:=Lib.hid hr;clear hr
 go_enter sqp.qzz,sqp.qvw
 simp only [sq.qmz,sq.qot,sq.qmy,sq.oNo]
 refine wp_seq ?_
 refine wp_region_lit ?_
 refine qiu rfl (.tmp 1) (.tmp 1) _ rfl (V L).toArray (V L).toArray rfl rfl true (EQ.out _) ?_
 refine qkj rfl (.tmp 1) rfl L L51 rfl ?_
 refine wpList_nil ?_
 simp only [Act.put,Exit.then]
 have b1:Below w.heap.size w (w.alloc (.cells (V L).toArray 55)):=(Below.refl _ _).alloc (Nat.le_refl _) _
 have C1:Hid (Chn (w.alloc (.cells (V L).toArray 55)) c 1000 vs false):=Lib.hid (HC.out.keep b1 HC.out.lt)
 have O1:Hid (Out c (c + 1) w (w.alloc (.cells (V L).toArray 55))):=Lib.hid (Out.of_below b1)
 generalize w.alloc (.cells (V L).toArray 55) = w1 at *
 refine ch.region rfl ?_
 simp only [List.size_toArray,List.length_cons,List.length_nil,Nat.zero_add,List.range,List.range.loop]
 refine ch.Rw.q05 (c:=c) (v:=.agg (V L).toArray) (z':=.tuple #[]) rfl rfl (by simp [execOp,Conc.scase,Act.eval]) C1.out HR.out (fun w2 C2 o2=>?_)
 refine ch.Rw.nil ?_
 go_end0
 exact ⟨rfl,C2,O1.out.trans o2⟩
end Go.Proofs.Ytcdclihinmdgiaa.orb

namespace Go.Proofs.Ytcdclihinmdgiaa.gl
open Go.ChangeShapes Go.WideShapes Go.ChangeAt Go.RowKit Go.Maps
open mem ints pm
set_option linter.unusedVariables false
set_option maxRecDepth 100000
theorem laidOut:laidOutB sqp.prog = true:=by kernel_rfl
theorem q4h:(43:TypeId) < sqp.prog.types.size:=of_decide_eq_true (by kernel_rfl)
theorem q4i:sqp.prog.types.size + 2<=10000:=of_decide_eq_true (by kernel_rfl)
theorem q4a:sqp.prog.keyType 43 = true:=by kernel_rfl
theorem q3f:(match sqp.prog.underlying 43 with | some (.array _ _) | some (.struct _)=>true | _=>false) = true:=by kernel_rfl
theorem q27:Keyed sqp.prog 43:=Keyed.of_law (deep_law_gate laidOut q4i q4h q4a q3f)
def lits (l:List Int):List Lit:=l.map fun a=>.int .i64 a
def Wf (l:List Int):Prop:=∀ a ∈ l,(Lit.int .i64 a).wf = true
def kG (l:List Int):Lit:=.string (keyBytes (lits l))
theorem qnm (d:Nat) (a:Int) (h:(Lit.int .i64 a).wf = true):sqp.prog.keyLits (d + 1) 3 [.int .i64 a] = some [.int .i64 a]:=by
 unfold Program.keyLits
 rw [sqp.underlying3]
 simp [h]
theorem qo8 {α:Type} {f:Nat->Option (List α)}:∀ (n:Nat) (l:List α),l.length = n->(∀ i (h:i < l.length),f i = some [l[i]])->((List.range n).mapM f).map List.flatten = some l:=by
 intro n
 induction n with
 | zero=>intro l h _;obtain rfl:=List.eq_nil_of_length_eq_zero h;simp
 | succ n ih =>
  intro l h hf
  have h2:=ih (l.take n) (by simp;omega) (fun i hi=>by
   have hi':i < n:=by simpa [h] using hi
   rw [hf i (by omega)];simp)
  rw [List.range_succ,List.mapM_append]
  obtain ⟨xs,e1,e2⟩:=Option.map_eq_some_iff.1 h2
  rw [e1]
  have e3:=hf n (by omega)
  simp [e3,e2]
  exact List.take_of_length_le (by omega)
theorem qj0 (d:Nat) (l:List Int) (hl:l.length = 24) (h:Wf l):sqp.prog.keyLits (d + 2) 41 (V l) = some (lits l):=by
 have hc:sqp.prog.cellsOf 41 = 24:=by kernel_rfl
 have hi:sqp.prog.cellsOf 3 = 1:=by kernel_rfl
 unfold Program.keyLits
 rw [sqp.underlying41]
 simp only [hc,hi,q8,hl,if_true,Nat.mul_one]
 refine qo8 24 (lits l) (by simp [lits,hl]) (fun i hi2=>?_)
 have hi3:i < l.length:=by simpa [lits] using hi2
 have e:((V l).drop i).take 1 = [.int .i64 l[i]]:=by
  rw [List.take_one,List.head?_drop]
  simp [V,hi3]
 rw [e,qnm d _ (h _ (List.getElem_mem hi3))]
 simp [lits]
theorem qym (d:Nat) (p q:List Int) (n:Nat) (hp:p.length = 24) (hq:q.length = 24) (h1:Wf p) (h2:Wf q) (h3:n<=1048576) :
  sqp.prog.keyLits (d + 3) 43 (V (gl p q n)) = some (lits (gl p q n)):=by
 have hc:sqp.prog.cellsOf 43 = 49:=by kernel_rfl
 have hc2:sqp.prog.cellsOf 41 = 24:=by kernel_rfl
 have hi:sqp.prog.cellsOf 3 = 1:=by kernel_rfl
 have e1:(V (gl p q n)).take 24 = V p:=by simp [V,gl,<-hp]
 have e2:((V (gl p q n)).drop 24).take 24 = V q:=by simp [V,gl,<-hp,hq]
 have e3:((V (gl p q n)).drop 48).take 1 = [.int .i64 (n:Int)]:=by
  have e:V (gl p q n) = (V p ++ V q) ++ [.int .i64 (n:Int)]:=by simp [V,gl]
  rw [e,List.drop_left' (by simp [V,hp,hq])];rfl
 have hn:(Lit.int .i64 (n:Int)).wf = true:=by simp [Lit.wf,IntKind.min,IntKind.max,IntKind.signed,IntKind.bits];omega
 unfold Program.keyLits
 rw [sqp.underlying43]
 simp [hc,hc2,hi,q8,jg hp hq,e1,e2,e3,qj0 d p hp h1,qj0 d q hq h2,qnm (d + 1) _ hn]
 simp [lits,gl]
theorem qre (p q:List Int) (n:Nat) (hp:p.length = 24) (hq:q.length = 24) (h1:Wf p) (h2:Wf q) (h3:n<=1048576) :
  keyOf sqp.prog 43 (.agg (V (gl p q n)).toArray) = some (kG (gl p q n)):=by
 have hs:sqp.prog.types.size + 1 = (sqp.prog.types.size - 2) + 3:=by have:2<=sqp.prog.types.size:=of_decide_eq_true (by kernel_rfl);omega
 have hf:(Value.agg (V (gl p q n)).toArray).formed sqp.prog 43 = true:=by
  have hc:sqp.prog.cellsOf 43 = 49:=by kernel_rfl
  simp [Value.formed,sqp.underlying43,hc,q8,jg hp hq]
 unfold keyOf
 rw [sqp.underlying43]
 simp only [q4a,hf,Bool.and_true,if_true,hs]
 have hv:(Value.agg (V (gl p q n)).toArray).cells.toList = V (gl p q n):=by simp [Value.cells]
 rw [hv,qym _ p q n hp hq h1 h2 h3]
 rfl
theorem q1c {p q p' q':List Int} {n n':Nat} (hp:p.length = 24) (hq:q.length = 24) (h1:Wf p) (h2:Wf q) (h3:n<=1048576) (hp':p'.length = 24) (hq':q'.length = 24) (h1':Wf p') (h2':Wf q') (h3':n'<=1048576)
  (e:kG (gl p q n) = kG (gl p' q' n')):gl p q n = gl p' q' n':=by
 have a:=qre p q n hp hq h1 h2 h3
 have b:=qre p' q' n' hp' hq' h1' h2' h3'
 rw [<-e] at b
 have:=q27.inj a b
 injection this with this
 have:=congrArg Array.toList this
 have this:V (gl p q n) = V (gl p' q' n'):=this
 have h1:=qzb (gl p q n)
 rw [this,qzb] at h1
 exact (Option.some.inj h1).symm
end Go.Proofs.Ytcdclihinmdgiaa.gl

namespace Go.Proofs.Ytcdclihinmdgiaa.gm
open Go.ChangeShapes Go.WideShapes Go.ChangeAt Go.RowKit Go.Maps
set_option linter.unusedVariables false
set_option maxRecDepth 100000
end Go.Proofs.Ytcdclihinmdgiaa.gm

namespace Go.Proofs.Ytcdclihinmdgiaa.orb
open Go.ChangeShapes Go.WideShapes Go.ChangeAt Go.RowKit Go.Maps
open mem ints arr pm sf gl
open Go.Proofs.Ytcdclihinmdgiaa.ch (Chn)
set_option linter.unusedVariables false
set_option maxRecDepth 100000
section
variable {P:Program}
theorem qan (w:World) (g off:Nat) (ty:TypeId) (cs:List Value) (d:TypeDesc) (hc:∀ (j:Nat) v,cs[j]? = some v->w.cell? ⟨g,off + j,none⟩ = some v)
  (hu:P.underlying ty = some d) (hd:(match d with | .struct _ | .array _ _=>true | _=>false) = true) (hi:(P.info? ty).map (·.size) = some cs.length) :
  (loadVar ty ⟨g,off,none⟩).run P w = .ok (.agg cs.toArray) w:=by
 have hl:(loadCells ⟨g,off,none⟩ cs.length).run P w = .ok cs.toArray w :=
  run_loadCells_list (P:=P) w ⟨g,off,none⟩ cs (fun j v hv=>by
   have hadd:(⟨g,off,none⟩:Addr).add j = ⟨g,off + j,none⟩:=by unfold Addr.add;split <;> simp_all
   rw [hadd]
   exact hc j v hv)
 cases hq:P.info? ty with
 | none=>simp [hq] at hi
 | some i =>
  have hs:i.size = cs.length:=by simpa [hq] using hi
  have hagg:(isAgg ty).run P w = .ok true w:=by
   unfold isAgg
   rw [Sem.run_bind,run_underlying hu w]
   cases d <;> simp_all
  simp [loadVar,Sem.run_bind,hagg,sizeOf,typeInfo,hq,hs,hl]
theorem qz {ops:Array Oper} {rest:List Oper} {o:Oper} {a:Act} {w:World} {Q:Exit->Act->World->Prop} (hgd:o.guard = none) (ty:TypeId) (x:Operand) (ho:o.op = .load ty x)
  (g off:Nat) (hx:a.eval x = .pointer (some ⟨g,off,none⟩)) (cs:List Value) (d:TypeDesc) (hc:∀ (j:Nat) v,cs[j]? = some v->w.cell? ⟨g,off + j,none⟩ = some v)
  (hu:P.underlying ty = some d) (hd:(match d with | .struct _ | .array _ _=>true | _=>false) = true) (hi:(P.info? ty).map (·.size) = some cs.length)
  (h:wpList P ops Q rest (a.put o.dst (.agg cs.toArray)) w):wpList P ops Q (o :: rest) a w:=by
 refine wpList_plain hgd fun _ hK=>?_
 unfold Oper.wp execOp
 simp only [ho,hx,Instr.loadAt,Instr.sureAddr,Sem.run_bind,Sem.run_pure,Result.andThen_ok,qan w g off ty cs d hc hu hd hi]
 exact hK _ _ h
theorem dh {H:Type} (w:World) {ops:Array Oper} {rest:List Oper} {o:Oper} {a:Act} {Q:Exit->Act->World->Prop}
  (hg:o.guard = none) (m x:Operand) (t:TypeId) (hop:o.op = Op.lookup t m x false)
  (k e:TypeId) (K:Keyed P k) (ht:P.underlying t = some (.map k e)) (he:P.underlying e = some .bool) (hz:(zeroValue e).run P w = .ok (.bool false) w) (b n:Nat) (D:DataW H)
  (hm:a.eval m = .map (some b)) (hown:w.ownsMap P k (plainElem P e) b n D) (key:Value) (kl:Lit) (hx:a.eval x = key) (hkey:keyOf P k key = some kl) (c:Bool) (hat:D.atKey kl (.lit (.bool false)) = .lit (.bool c))
  (hK:wpList P ops Q rest (a.put o.dst (.bool c)) w):wpList P ops Q (o :: rest) a w:=by
 refine wpList_plain hg fun K' hK'=>?_
 obtain ⟨v,ps,hrun,hv⟩:=hown.lookup K ht hz (plainElem_bool he false) hkey
 have e1:v = .bool c:=by
  unfold plainElem at hv
  rw [he] at hv
  cases v with
  | bool y =>
   simp only [Option.some.injEq,Prod.mk.injEq] at hv
   rw [hat] at hv
   have:=hv.1
   injection this with this
   injection this with this
   rw [this]
  | _=>simp at hv
 subst e1
 unfold Oper.wp
 simp [execOp,hop,hm,hx,hrun,Result.andThen]
 exact hK' _ _ hK
end
structure Kb (D:DataW Unit) (ks:List Lit):Prop where
 tidy:Tidy D
 yes:∀ k,k ∈ ks->D.atKey k (.lit (.bool false)) = .lit (.bool true)
 no:∀ k,k ∉ ks->D.atKey k (.lit (.bool false)) = .lit (.bool false)
theorem Kb.empty:Kb (.map []) []:=⟨tidy_empty,fun k h=>by simp at h,fun k _=>by simp [DataW.atKey]⟩
theorem Kb.put {D:DataW Unit} {ks:List Lit} (h:Kb D ks) {k:Lit} (hk:WideAt.IsKeyLit k):Kb (D.put k (.lit (.bool true))) (ks ++ [k]):=by
 refine ⟨h.tidy.put hk _,fun j hj=>?_,fun j hj=>?_⟩
 ·by_cases e:j = k
  ·subst e
   rw [atKey_put_same h.tidy.isMap hk]
  ·rw [atKey_put_other e]
   refine h.yes j ?_
   rcases List.mem_append.1 hj with z | z
   ·exact z
   ·exact absurd (by simpa using z) e
 ·have e:j ≠ k:=fun e=>hj (by simp [e])
  rw [atKey_put_other e]
  exact h.no j fun z=>hj (List.mem_append_left _ z)
abbrev Fd:=Sur × Nat × Nat
def fdV (n:Nat) (x:Fd):Value:=.agg (V (fdL x.1 n x.2.1 x.2.2)).toArray
def fdK (n:Nat) (x:Fd):Lit:=kG (gS x.1 n)
def fdF (n:Nat) (xs:List Fd):List Value:=xs.flatMap fun x=>V (gS x.1 n)
structure Frc (B c:Nat) (w w':World):Prop where
 os:w'.os = w.os
 tape:w'.tape = w.tape
 output:w'.output = w.output
 size:w.heap.size<=w'.heap.size
 block:∀ k,k < B->k ≠ c->w'.heap[k]? = w.heap[k]?
theorem Frc.trans {B c:Nat} {u v w:World} (h:Frc B c u v) (k:Frc B c v w):Frc B c u w:=⟨k.os.trans h.os,k.tape.trans h.tape,k.output.trans h.output,Nat.le_trans h.size k.size,fun i h1 h2=>(k.block i h1 h2).trans (h.block i h1 h2)⟩
theorem Frc.of_below {B c:Nat} {w w':World} (h:Below B w w'):Frc B c w w':=⟨h.os,h.tape,h.output,h.size,fun k hk _=>h.block k hk⟩
theorem Frc.qkk {B c:Nat} {w w':World} (h:Out c (c + 1) w w') (hB:B<=w.heap.size):Frc B c w w':=⟨h.os,h.tape,h.output,h.size,fun k hk hne=>h.block k (by omega) (by omega)⟩
structure Qs (w:World) (B mp fb qb cb c n:Nat) (xs:List Fd):Prop where
 sf:∀ x ∈ xs,Sf n x.1.1 x.1.2
 fnd:Arr w fb [.map (some mp)] 99
 map:∃ D:DataW Unit,w.ownsMap sqp.prog 43 (plainElem sqp.prog 4) mp xs.length D/\Kb D (xs.map (fdK n))
 que:∃ A cp,Arr w qb [.slice A xs.length cp] 44/\w.ownsRow B 43 49 (.slice A xs.length cp) xs.length (fdF n xs)/\∀ b,(Value.slice A xs.length cp).ownBlock = some b->b ≠ fb/\b ≠ qb/\b ≠ cb/\b ≠ mp
 chn:Chn w c 1000 (xs.map (fdV n)) false
 cv:Arr w cb [.chan (some c)] 98
 lo:B<=mp/\B<=fb/\B<=qb/\B<=cb/\c < B
 ne:fb ≠ qb/\fb ≠ cb/\qb ≠ cb/\mp ≠ fb/\mp ≠ qb/\mp ≠ cb
end Go.Proofs.Ytcdclihinmdgiaa.orb
