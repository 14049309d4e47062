import Derived.Test.YtcdclihinmdgiaaZ04
import Derived.Test.YtcdclihinmdgiaaZ12
import Derived.Maps.Own
import Derived.Maps.OwnSet
import Derived.Maps.RangeWalk
import Derived.ChangeKeysEq
import Derived.Laws.StructEq
namespace Go.Proofs.Ytcdclihinmdgiaa.gl
open Go.ChangeShapes Go.WideShapes Go.ChangeAt Go.RowKit Go.Maps
open mem ints arr pm permOk permOf inv fns sf
set_option linter.unusedVariables false
set_option maxRecDepth 100000
def unI:List Value->Option (List Int)
 | []=>some []
 | .int .i64 a :: r=>(unI r).map (a :: ·)
 | _ :: _=>none
theorem qzb:∀ l:List Int,unI (V l) = some l:=by
 intro l
 induction l with
 | nil=>rfl
 | cons a l ih=>show (unI (V l)).map _ = _;rw [ih];rfl
theorem q1o:∀ (vs:List Value) (l:List Int),unI vs = some l->vs = V l
 | [],l,h=>by simp [unI] at h;subst h;rfl
 | v :: vs,l,h=>by
  unfold unI at h
  split at h
  ·rename_i e;cases e
  ·rename_i a r e
   injection e with e1 e2
   subst e1;subst e2
   simp only [Option.map_eq_some_iff] at h
   obtain ⟨m,hm,rfl⟩:=h
   rw [q1o vs m hm];rfl
  ·cases h
def dat (l:List Int):DataW Unit:=.agg (l.map fun a=>.lit (.int .i64 a))
theorem qry {l l':List Int} (h:dat l = dat l'):l = l':=by
 unfold dat at h
 injection h with h
 induction l generalizing l' with
 | nil=>cases l' with
  | nil=>rfl
  | cons b l'=>simp at h
 | cons a l ih=>cases l' with
  | nil=>simp at h
  | cons b l'=>simp at h;rw [h.1,ih (by simpa using h.2)]
def qdf:Value->Option (DataW Unit × List MemPlace)
 | .agg cs=>(unI cs.toList).map fun l=>(dat l,[])
 | _=>none
theorem qil (l:List Int):qdf (.agg (V l).toArray) = some (dat l,[]):=by
 show (unI (V l).toArray.toList).map _ = _
 rw [show (V l).toArray.toList = V l from rfl,qzb];rfl
theorem qkb {v:Value} {y:DataW Unit × List MemPlace} (h:qdf v = some y):∃ l,v = .agg (V l).toArray/\y = (dat l,[]):=by
 unfold qdf at h
 split at h
 ·rename_i cs
  simp only [Option.map_eq_some_iff] at h
  obtain ⟨l,hl,rfl⟩:=h
  refine ⟨l,?_,rfl⟩
  have:=q1o _ _ hl
  rw [<-this]
 ·cases h
theorem qxj:Keyed sqp.prog 3:=int_keyed sqp.underlying3
def kk (i:Nat):Lit:=.int .i64 (i:Int)
theorem qd0 {i j:Nat} (h:kk i = kk j):i = j:=by simp [kk] at h;omega
theorem qrz {i:Nat} (h:i < 1024):keyOf sqp.prog 3 (.int .i64 (i:Int)) = some (kk i):=keyOf_int_mk sqp.underlying3 (by simp [Lit.wf,IntKind.min,IntKind.max,IntKind.signed,IntKind.bits];omega)
theorem qkc (i:Nat):WideAt.IsKeyLit (kk i):=trivial
structure Holds (D:DataW Unit) (N:Nat) (keep:Nat->Bool) (f:Nat->List Int):Prop where
 tidy:Tidy D
 key:∀ k,has D k = true->∃ i,i < N/\keep i = true/\k = kk i
 has_:∀ i,i < N->keep i = true->has D (kk i) = true
 at_:∀ i,i < N->keep i = true->∀ z,D.atKey (kk i) z = dat (f i)
theorem Holds.empty (f:Nat->List Int) (keep:Nat->Bool):Holds (.map []) 0 keep f :=
 ⟨tidy_empty,fun k h=>by simp [has] at h,fun i h=>by omega,fun i h=>by omega⟩
theorem Holds.put {D:DataW Unit} {N:Nat} {f:Nat->List Int} (h:Holds D N (fun _=>true) f):Holds (D.put (kk N) (dat (f N))) (N + 1) (fun _=>true) f:=by
 refine ⟨h.tidy.put (qkc N) _,fun k hk=>?_,fun i hi _=>?_,fun i hi _ z=>?_⟩
 ·by_cases e:k = kk N
  ·exact ⟨N,by omega,rfl,e⟩
  ·rw [has_put_other e] at hk
   obtain ⟨i,a,b,c⟩:=h.key k hk
   exact ⟨i,by omega,b,c⟩
 ·by_cases e:i = N
  ·subst e;exact has_put_same h.tidy.isMap (qkc _) _
  ·rw [has_put_other (fun e2=>e (qd0 e2))];exact h.has_ i (by omega) rfl
 ·by_cases e:i = N
  ·subst e;exact atKey_put_same h.tidy.isMap (qkc _) _ _
  ·rw [atKey_put_other (fun e2=>e (qd0 e2))];exact h.at_ i (by omega) rfl z
theorem Holds.del {D:DataW Unit} {N j:Nat} {keep keep':Nat->Bool} {f:Nat->List Int} (h:Holds D N keep f) (h1:∀ i,i < N->i ≠ j->keep' i = keep i) (h2:keep' j = false):Holds (D.del (kk j)) N keep' f:=by
 refine ⟨h.tidy.del _,fun k hk=>?_,fun i hi hki=>?_,fun i hi hki z=>?_⟩
 ·by_cases e:k = kk j
  ·subst e;rw [has_del_same] at hk;cases hk
  ·rw [has_del_other e] at hk
   obtain ⟨i,a,b,rfl⟩:=h.key k hk
   exact ⟨i,a,by rw [h1 i a (fun e2=>e (by rw [e2]))];exact b,rfl⟩
 ·have e:i ≠ j:=fun e=>by subst e;rw [h2] at hki;cases hki
  rw [has_del_other (fun e2=>e (qd0 e2))]
  exact h.has_ i hi (by rw [<-h1 i hi e];exact hki)
 ·have e:i ≠ j:=fun e=>by subst e;rw [h2] at hki;cases hki
  rw [atKey_del_other (fun e2=>e (qd0 e2))]
  exact h.at_ i hi (by rw [<-h1 i hi e];exact hki) z
theorem Holds.congr {D:DataW Unit} {N:Nat} {keep keep':Nat->Bool} {f:Nat->List Int} (h:Holds D N keep f) (h1:∀ i,i < N->keep' i = keep i):Holds D N keep' f :=
 ⟨h.tidy,fun k hk=>by obtain ⟨i,a,b,c⟩:=h.key k hk;exact ⟨i,a,by rw [h1 i a];exact b,c⟩,fun i hi hk=>h.has_ i hi (by rw [<-h1 i hi];exact hk),fun i hi hk=>h.at_ i hi (by rw [<-h1 i hi];exact hk)⟩
theorem qe4 {α:Type}:∀ (l m:List α),l.Nodup->(∀ x ∈ l,x ∈ m)->l.length<=m.length:=by
 classical
 intro l
 induction l with
 | nil=>intros;simp
 | cons a l ih =>
  intro m hn hs
  rw [List.nodup_cons] at hn
  have ha:a ∈ m:=hs a (by simp)
  have:=ih (m.erase a) hn.2 (fun x hx=>(List.mem_erase_of_ne (fun e=>hn.1 (by rw [<-e];exact hx))).2 (hs x (by simp [hx])))
  rw [List.length_erase_of_mem ha] at this
  have:0 < m.length:=List.length_pos_of_mem ha
  simp;omega
theorem Holds.size {D:DataW Unit} {N:Nat} {keep:Nat->Bool} {f:Nat->List Int} (h:Holds D N keep f) {es:List (Lit × DataW Unit)} (hD:D = .map es) (hp:es.Pairwise (fun p q=>p.1 ≠ q.1)) (hl:∀ p ∈ es,WideAt.IsKeyLit p.1):Maps.size D = (List.range N).countP keep:=by
 subst hD
 have a1:(es.map (·.1)).Nodup:=by unfold List.Nodup;rw [List.pairwise_map];exact hp
 have a2:(((List.range N).filter keep).map kk).Nodup:=by
  unfold List.Nodup
  rw [List.pairwise_map]
  exact (List.nodup_range.sublist List.filter_sublist).imp (fun hne e=>hne (qd0 e))
 have b1:∀ x ∈ es.map (·.1),x ∈ ((List.range N).filter keep).map kk:=fun x hx=>by
  obtain ⟨p,hp1,rfl⟩:=List.mem_map.1 hx
  obtain ⟨i,i1,i2,e⟩:=h.key p.1 (by rw [has_eq,List.any_eq_true];exact ⟨p,hp1,WideAt.sameKey_self (hl p hp1)⟩)
  rw [e]
  exact List.mem_map.2 ⟨i,List.mem_filter.2 ⟨List.mem_range.2 i1,i2⟩,rfl⟩
 have b2:∀ x ∈ ((List.range N).filter keep).map kk,x ∈ es.map (·.1):=fun x hx=>by
  obtain ⟨i,hi,rfl⟩:=List.mem_map.1 hx
  obtain ⟨i1,i2⟩:=List.mem_filter.1 hi
  have:=h.has_ i (List.mem_range.1 i1) i2
  rw [has_eq,List.any_eq_true] at this
  obtain ⟨p,hp1,hp2⟩:=this
  exact List.mem_map.2 ⟨p,hp1,WideAt.sameKey_eq hp2⟩
 have c1:=qe4 _ _ a1 b1
 have c2:=qe4 _ _ a2 b2
 rw [size_eq,List.countP_eq_length_filter]
 simp at c1 c2
 omega
theorem qcm (cs:Array Value) (off:Nat) (w:World):(part 41 cs off).run sqp.prog w = .ok (.agg (cs.extract off (off + 24))) w:=by
 have h1:(isAgg 41).run sqp.prog w = .ok true w:=by kernel_rfl
 have h2:(sizeOf 41).run sqp.prog w = .ok 24 w:=by kernel_rfl
 simp only [part,Sem.run_bind,h1,Result.andThen_ok,if_true,h2,Sem.run_pure]
theorem mh {cs:Array Value} {off:Nat} {v:Value} (h:cs[off]? = some v) (w:World):(part 3 cs off).run sqp.prog w = .ok v w:=run_part_plain w (by kernel_rfl) h
theorem qr0 (l l':List Int) (d:Nat) (w:World):∀ is:List Nat,(∀ i ∈ is,i < l.length/\i < l'.length) ->
  (Op.eqItems (d + 1) 3 1 (V l).toArray (V l').toArray is).run sqp.prog w = .ok (decide (∀ i ∈ is,l.getD i 0 = l'.getD i 0)) w:=by
 intro is
 induction is with
 | nil=>intro _;simp [Op.eqItems]
 | cons i is ih =>
  intro h
  have h1:=mh (cs:=(V l).toArray) (off:=i * 1) (v:=.int .i64 (l.getD i 0)) (by simpa using bg (h i (by simp)).1) w
  have h2:=mh (cs:=(V l').toArray) (off:=i * 1) (v:=.int .i64 (l'.getD i 0)) (by simpa using bg (h i (by simp)).2) w
  have h3:(Op.equalIn (d + 1) 3 (.int .i64 (l.getD i 0)) (.int .i64 (l'.getD i 0))).run sqp.prog w = .ok (l.getD i 0 == l'.getD i 0) w:=run_equalIn_int w d _ .i64 .i64 _ _ sqp.underlying3
  have h4:=ih (fun j hj=>h j (by simp [hj]))
  have e5:decide (∀ j ∈ i :: is,l.getD j 0 = l'.getD j 0) = (decide (l.getD i 0 = l'.getD i 0) && decide (∀ j ∈ is,l.getD j 0 = l'.getD j 0)):=by
   rw [<-Bool.decide_and,decide_eq_decide];exact List.forall_mem_cons
  rw [e5]
  generalize l.getD i 0 = a at *
  generalize l'.getD i 0 = b at *
  simp only [Op.eqItems,Sem.run_bind,h1,h2,h3,Result.andThen_ok]
  by_cases e:a = b
  ·subst e
   simpa using h4
  ·have:(a == b) = false:=by simpa using e
   simp only [this,e,Bool.not_false,if_true,Sem.run_pure,decide_false,Bool.false_and]
theorem qeq {p p':List Int} (hp:p.length = 24) (hp':p'.length = 24) (d:Nat) (w:World) :
  (Op.equalIn (d + 2) 41 (.agg (V p).toArray) (.agg (V p').toArray)).run sqp.prog w = .ok (decide (p = p')) w:=by
 obtain ⟨i0,hi0,hz0,hz1,hz2⟩:=info_parts qeo
 have hc:sqp.prog.cellsOf 3 = 1:=by kernel_rfl
 rw [run_equalIn_array w (d + 1) _ _ sqp.underlying41 hi0,hc,qr0 _ _ _ _ _ (fun i hi=>by simp at hi;omega)]
 congr 1
 rw [decide_eq_decide]
 constructor
 ·intro h;exact qao 24 hp hp' (fun i hi=>h i (by simpa using hi))
 ·rintro rfl i _;rfl
theorem ql2 {l:List Int} {a b:Nat} {m:List Int} (h:(l.drop a).take (b - a) = m):(V l).toArray.extract a b = (V m).toArray:=by
 subst h
 simp [V,List.map_take,List.map_drop]
set_option maxHeartbeats 1000000 in
theorem q1p {p q p' q':List Int} (hp:p.length = 24) (hq:q.length = 24) (hp':p'.length = 24) (hq':q'.length = 24) (n:Nat) (w:World) :
  (Op.equalIn 10000 43 (.agg (V (gl p q n)).toArray) (.agg (V (gl p' q' n)).toArray)).run sqp.prog w = .ok (decide (p = p'/\q = q')) w:=by
 have hf:(sqp.prog.fieldsOf 43).toList.map (fun f=>(f.name,f.type,f.offset)) = [("right",41,0),("up",41,24),("count",3,48)]:=by kernel_rfl
 rw [run_equalIn_struct w 9999 _ _ _ (by kernel_rfl) (by kernel_rfl)]
 generalize (sqp.prog.fieldsOf 43).toList = fs at hf
 have hl:fs.length = 3:=by have:=congrArg List.length hf;simpa using this
 match fs,hl,hf with
 | [f0,f1,f2],_,hf =>
  simp only [List.map_cons,List.map_nil,List.cons.injEq,Prod.mk.injEq,and_true] at hf
  obtain ⟨⟨a1,a2,a3⟩,⟨b1,b2,b3⟩,c1,c2,c3⟩:=hf
  have x1:∀ {r s:List Int},r.length = 24->s.length = 24->(V (gl r s n)).toArray.extract 0 (0 + 24) = (V r).toArray:=fun hr hs=>ql2 (by simp [gl,hr])
  have x2:∀ {r s:List Int},r.length = 24->s.length = 24->(V (gl r s n)).toArray.extract 24 (24 + 24) = (V s).toArray:=fun hr hs=>ql2 (by simp [gl,hr,hs])
  have x3:∀ {r s:List Int},r.length = 24->s.length = 24->(V (gl r s n)).toArray[48]? = some (.int .i64 n):=fun hr hs=>by
   simp only [gl,V,List.map_append,List.getElem?_toArray]
   rw [List.getElem?_append_right (by simp;omega)]
   simp [hr,hs]
  have e1:=qeq hp hp' 9997 w
  have e2:=qeq hq hq' 9997 w
  have e3:(Op.equalIn 9999 3 (.int .i64 n) (.int .i64 n)).run sqp.prog w = .ok true w:=by rw [run_equalIn_int w 9998 _ .i64 .i64 _ _ sqp.underlying3];simp
  have n1:(("right":String) ≠ "_") = True:=by simp
  have n2:(("up":String) ≠ "_") = True:=by simp
  have n3:(("count":String) ≠ "_") = True:=by simp
  have e1':(Op.equalIn 9999 41 (.agg (V p).toArray) (.agg (V p').toArray)).run sqp.prog w = .ok (decide (p = p')) w:=e1
  have e2':(Op.equalIn 9999 41 (.agg (V q).toArray) (.agg (V q').toArray)).run sqp.prog w = .ok (decide (q = q')) w:=e2
  simp only [Op.eqFields,n1,n2,n3,if_true,a1,a2,a3,b1,b2,b3,c1,c2,c3,Sem.run_bind,qcm,x1 hp hq,x1 hp' hq',Result.andThen_ok,e1']
  by_cases h1:p = p'
  ·simp only [decide_eq_true h1,Bool.not_true,Bool.false_eq_true,if_false,Sem.run_bind,qcm,x2 hp hq,x2 hp' hq',Result.andThen_ok,e2']
   by_cases h2:q = q'
   ·simp only [decide_eq_true h2,Bool.not_true,Bool.false_eq_true,if_false,Sem.run_bind,mh (x3 hp hq),mh (x3 hp' hq'),Result.andThen_ok,e3,Sem.run_pure]
    rw [decide_eq_true (show p = p'/\q = q' from ⟨h1,h2⟩)]
   ·simp only [decide_eq_false h2,Bool.not_false,if_true,Sem.run_pure]
    rw [decide_eq_false (fun h=>h2 h.2)]
  ·simp only [decide_eq_false h1,Bool.not_false,if_true,Sem.run_pure]
   rw [decide_eq_false (fun h=>h1 h.1)]
theorem ql3 {ops:Array Oper} {o:Oper} {a:Act} {w:World} {K:Act->World->Prop} {Q:Exit->Act->World->Prop} {E:Prop} (hgd:o.guard = none) (x y:Operand) (rt:TypeId) (ho:o.op = .binOp .neq 43 x y rt)
  (xs ys:Array Value) (hx:a.eval x = .agg xs) (hy:a.eval y = .agg ys) (b:Bool) (he:(Op.equalIn 10000 43 (.agg xs) (.agg ys)).run sqp.prog w = .ok b w)
  (h:K (a.put o.dst (.bool (!b))) w):if Region.wanted o (yielded ops a.tmps) = true then Oper.wp sqp.prog o a w K Q else E:=by
 have hw:Region.wanted o (yielded ops a.tmps) = true:=by simp [Region.wanted,hgd]
 rw [if_pos hw]
 unfold Oper.wp execOp
 simp only [ho,hx,hy,Sem.run_bind,run_eqGuard_agg w .neq _ x y xs ys (show sqp.prog.eqGuardType sqp.prog.depth 43 = false by kernel_rfl),Result.andThen_ok,run_neq_struct,he,Sem.run_pure]
 exact h
theorem qd1 {ops:Array Oper} {rest:List Oper} {o:Oper} {a:Act} {w:World} {Q:Exit->Act->World->Prop} (hgd:o.guard = none) (x y:Operand) (rt:TypeId) (ho:o.op = .binOp .eql 43 x y rt)
  (xs ys:Array Value) (hx:a.eval x = .agg xs) (hy:a.eval y = .agg ys) (b:Bool) (he:(Op.equalIn 10000 43 (.agg xs) (.agg ys)).run sqp.prog w = .ok b w)
  (h:wpList sqp.prog ops Q rest (a.put o.dst (.bool b)) w):wpList sqp.prog ops Q (o :: rest) a w:=by
 refine wpList_plain hgd fun K hK=>?_
 unfold Oper.wp execOp
 simp only [ho,hx,hy,Sem.run_bind,run_eqGuard_agg w .eql _ x y xs ys (show sqp.prog.eqGuardType sqp.prog.depth 43 = false by kernel_rfl),Result.andThen_ok,run_eql_struct,he,Sem.run_pure]
 exact hK _ _ h
theorem qr1:∀ (a b t:List Int),a.length = b.length->y5 (a ++ t) (b ++ t) = y5 a b:=by
 intro a
 induction a with
 | nil=>intro b t h;cases b with
  | nil=>simp [qd5]
  | cons y b=>simp at h
 | cons x a ih=>intro b t h;cases b with
  | nil=>simp at h
  | cons y b=>simp only [List.cons_append,y5];rw [ih b t (by simpa using h)]
theorem qu2 {xs ys:List Int} (h:xs.length = ys.length):(ext xs).drop xs.length = (ext ys).drop ys.length:=by
 refine qao (24 - xs.length) (by simp [qc]) (by simp [qc,h]) fun i hi=>?_
 have a:(ext xs).getD (xs.length + i) 0 = (ext ys).getD (ys.length + i) 0:=by
  rw [j5 (by omega),j5 (by omega),if_neg (by omega),if_neg (by omega),h]
 simpa [List.getD,List.getElem?_drop] using a
theorem qax {xs ys:List Int} (h:xs.length = ys.length) (hl:xs.length<=24) (e:ext xs = ext ys):xs = ys:=by
 have:=qbt xs hl
 rw [<-this,e,h]
 exact qbt ys (by omega)
theorem qkd {xs ys:List Int} (h:xs.length = ys.length) (hl:xs.length<=24):y5 (ext xs) (ext ys) = y5 xs ys:=by
 rw [qlu xs hl,qlu ys (by omega),<-qu2 h]
 exact qr1 _ _ _ h
theorem qr2 {a b a' b':List Int} (h1:a.length = a'.length) (h2:b.length = b'.length) (l1:a.length<=24) (l2:b.length<=24):bef (ext a,ext b) (ext a',ext b') = bef (a,b) (a',b'):=by
 unfold bef
 by_cases e:a = a'
 ·subst e;simp only [if_true];exact qkd h2 l2
 ·have e':ext a ≠ ext a':=fun q=>e (qax h1 l1 q)
  simp only [if_neg e,if_neg e'];exact qkd h1 l1
end Go.Proofs.Ytcdclihinmdgiaa.gl

namespace Go.Proofs.Ytcdclihinmdgiaa.gl
open Go.ChangeShapes Go.WideShapes Go.ChangeAt Go.RowKit Go.Maps
open mem ints arr pm permOk permOf inv fns sf
set_option linter.unusedVariables false
set_option maxRecDepth 100000
def nf (r u:List Int) (i:Nat):List Int:=ext (nm r u (i:Int))
def frm (r u:List Int) (n i:Nat):List Int:=gl (ext (Fm r u n (i:Int)).1) (ext (Fm r u n (i:Int)).2) n
theorem qbu (r u:List Int) (n i:Nat):(frm r u n i).length = 49:=jg (qc _) (qc _) _
theorem qyi {n:Nat} {r u:List Int} (s:Sf n r u) {i:Nat} (hi:i < n):Sq (nf r u i):=(s.nok (f:=(i:Int)) (by omega) (by omega)).1.sq
theorem qls {n:Nat} {r u:List Int} (s:Sf n r u) {i:Nat} (hi:i < n):gl (qch (ext r) (nf r u i)) (qch (ext u) (nf r u i)) n = frm r u n i:=by
 obtain ⟨nk,nl⟩:=s.nok (f:=(i:Int)) (by omega) (by omega)
 unfold nf frm Fm
 rw [qj3 s.r nk s.lr nl,qj3 s.u nk s.lu nl]
structure C1 (w wr:World) (r u:List Int) (n k:Nat) (D:DataW Unit):Prop where
 g:Arr wr w.heap.size (V (gl (ext r) (ext u) n)) 43
 res:Arr wr (w.heap.size + 1) (V qp) 43
 mp:wr.ownsMap sqp.prog 3 qdf (w.heap.size + 2) k D
 holds:Holds D k (fun _=>true) (nf r u)
 below:Below w.heap.size w wr
theorem C1.keep {w wr w':World} {r u:List Int} {n k:Nat} {D:DataW Unit} (h:C1 w wr r u n k D) (hb:Below wr.heap.size wr w'):C1 w w' r u n k D :=
 ⟨h.g.keep hb h.g.lt,h.res.keep hb h.res.lt,h.mp.kept (row:=none) ⟨hb.os,hb.tape,hb.output,hb.size,fun i hi _=>hb.block i hi⟩ (by simp),h.holds,h.below.trans (hb.mono h.below.size)⟩
theorem C1.put {w wr w':World} {r u:List Int} {n k:Nat} {D:DataW Unit} (h:C1 w wr r u n k D) (ho:w'.ownsMap sqp.prog 3 qdf (w.heap.size + 2) (k + 1) (D.put (kk k) (dat (nf r u k)))) (hg:wr.grownBy w' (some (w.heap.size + 2))):C1 w w' r u n (k + 1) (D.put (kk k) (dat (nf r u k))) :=
 ⟨(hg.block _ h.g.lt (by simp)).trans h.g,(hg.block _ h.res.lt (by simp)).trans h.res,ho,h.holds.put,h.below.grown hg h.below.size (fun k hk=>by injection hk with e;omega)⟩
theorem qyj {w:World} {b:Nat} (h:b = w.heap.size):(w.alloc (.map #[] 0)).ownsMap sqp.prog 3 qdf b 0 (.map []):=by
 subst h;exact World.ownsMap_made _ _ _ _
theorem C1.look {w wr:World} {r u:List Int} {n k:Nat} {D:DataW Unit} (h:C1 w wr r u n k D) {i:Nat} (hi:i < k) (hk:k<=24) :
  (Instr.lookup 93 (.map (some (w.heap.size + 2))) (.int .i64 (i:Int)) false).run sqp.prog wr = .ok (.agg (V (nf r u i)).toArray) wr:=by
 have hz:(zeroValue 41).run sqp.prog wr = .ok (.agg (V zeros).toArray) wr:=by kernel_rfl
 obtain ⟨v,ps,hrun,hv⟩:=h.mp.lookup qxj sqp.underlying93 hz (qil zeros) (qrz (i:=i) (by omega))
 rw [h.holds.at_ i hi rfl] at hv
 obtain ⟨l,rfl,e⟩:=qkb hv
 simp only [Prod.mk.injEq] at e
 rw [hrun,qry e.1]
structure C2 (w wr:World) (r u:List Int) (n L:Nat) (ls:List Int):Prop where
 g:Arr wr w.heap.size (V (gl (ext r) (ext u) n)) 43
 res:Arr wr (w.heap.size + 1) (V qp) 43
 l:Arr wr L (V ls) 43
 hL:w.heap.size + 3<=L
 below:Below w.heap.size w wr
theorem C2.keep {w wr w':World} {r u ls:List Int} {n L:Nat} (h:C2 w wr r u n L ls) (hb:Below wr.heap.size wr w'):C2 w w' r u n L ls :=
 ⟨h.g.keep hb h.g.lt,h.res.keep hb h.res.lt,h.l.keep hb h.l.lt,h.hL,h.below.trans (hb.mono h.below.size)⟩
theorem C2.grown {w wr w':World} {r u ls:List Int} {n L:Nat} {row:Option Nat} (h:C2 w wr r u n L ls) (hg:wr.grownBy w' row) (hr:∀ k,row = some k->k = w.heap.size + 2\/(L < k)):C2 w w' r u n L ls:=by
 have hL:=h.hL
 have ne:∀ k,k<=L->k ≠ w.heap.size + 2->some k ≠ row:=fun k h1 h2 e=>by rcases hr k e.symm with q | q <;> omega
 exact ⟨(hg.block _ h.g.lt (ne _ (by omega) (by omega))).trans h.g,(hg.block _ h.res.lt (ne _ (by omega) (by omega))).trans h.res,(hg.block _ h.l.lt (ne _ (by omega) (by omega))).trans h.l,hL,h.below.grown hg h.below.size (fun k hk=>by rcases hr k hk with q | q <;> omega)⟩
structure C3 (w wr:World) (r u:List Int) (n L R:Nat) (D:DataW Unit) (left:Lit->Bool) (cnt:Nat) (ls:List Int):Prop where
 rg:wr.ranges sqp.prog 3 qdf (w.heap.size + 2) R n D left cnt
 c:C2 w wr r u n L ls
 hR:L < R
theorem C3.keep {w wr w':World} {r u ls:List Int} {n L R cnt:Nat} {D:DataW Unit} {left:Lit->Bool} (h:C3 w wr r u n L R D left cnt ls) (hb:Below wr.heap.size wr w'):C3 w w' r u n L R D left cnt ls :=
 ⟨h.rg.kept (row:=none) ⟨hb.os,hb.tape,hb.output,hb.size,fun i hi _=>hb.block i hi⟩ (by simp) (by simp),h.c.keep hb,h.hR⟩
theorem C3.set {w wr:World} {r u ls ls':List Int} {n L R cnt:Nat} {D:DataW Unit} {left:Lit->Bool} (h:C3 w wr r u n L R D left cnt ls):C3 w (wr.setRow L (V ls').toArray) r u n L R D left cnt ls':=by
 have hL:=h.c.hL;have hR:=h.hR
 refine ⟨h.rg.kept (row:=some L) ⟨rfl,rfl,rfl,by simp,fun i hi hne=>setRow_other wr L i _ (fun e=>hne (by rw [e]))⟩ (by simp;omega) (by simp;omega),⟨h.c.g.qh (by omega),h.c.res.qh (by omega),h.c.l.row,hL,below_setRow h.c.below (by omega) _⟩,hR⟩
theorem qq5:∀ key kl,keyOf sqp.prog 3 key = some kl->∃ x,key = Value.int .i64 x:=fun key kl h=>by
 obtain ⟨x,e,_⟩:=keyOf_int_inv sqp.underlying3 h;exact ⟨x,e⟩
theorem qq6:∀ v y,qdf v = some y->∃ l:List Int,v = .agg (V l).toArray:=fun v y h=>by
 obtain ⟨l,e,_⟩:=qkb h;exact ⟨l,e⟩
theorem came {D:DataW Unit} {n:Nat} {keep:Nat->Bool} {f:Nat->List Int} (h:Holds D n keep f) {x:Int} {l:List Int} {kl:Lit} {y:DataW Unit × List MemPlace} (hk:keyOf sqp.prog 3 (.int .i64 x) = some kl) (hh:has D kl = true) (hy:qdf (.agg (V l).toArray) = some y) (hat:∀ zd,D.atKey kl zd = y.1) :
  ∃ i,i < n/\keep i = true/\x = (i:Int)/\kl = kk i/\l = f i:=by
 obtain ⟨i,hi,ki,rfl⟩:=h.key _ hh
 obtain ⟨x',ex,e,_⟩:=keyOf_int_inv sqp.underlying3 hk
 injection ex with _ ex
 subst ex
 simp only [kk,Lit.int.injEq,true_and] at e
 rw [qil] at hy
 have:=hat .nil
 rw [h.at_ i hi ki] at this
 rw [<-Option.some.inj hy] at this
 exact ⟨i,hi,ki,e.symm,rfl,(qry this).symm⟩
theorem qyk (r u:List Int) (n i j:Nat) (hn:n<=24):decide (qxa (ext (Fm r u n (i:Int)).1) (ext (Fm r u n (i:Int)).2) (ext (Fm r u n (j:Int)).1) (ext (Fm r u n (j:Int)).2) < 0) = bef (Fm r u n (i:Int)) (Fm r u n (j:Int)):=by
 rw [qni (by rw [qc,qc]) (by rw [qc,qc])]
 obtain ⟨a1,a2⟩:=qd6 r u n (i:Int)
 obtain ⟨b1,b2⟩:=qd6 r u n (j:Int)
 exact qr2 (by rw [a1,b1]) (by rw [a2,b2]) (by omega) (by omega)
theorem q07 {a b c:Sur} (h1:bef b c = true) (h2:bef a c = false):bef a b = false:=by
 cases h:bef a b
 ·rfl
 ·rw [qbi h h1] at h2;cases h2
def cn (r u:List Int) (n:Nat):List Int:=gl (ext (can r u n).1) (ext (can r u n).2) n
theorem qjv (r u:List Int) (n:Nat):(cn r u n).length = 49:=jg (qc _) (qc _) _
theorem qq7 {r u:List Int} {n j:Nat} (hpos:0 < n) (hj:j < n) (h:∀ i,i < n->bef (Fm r u n (i:Int)) (Fm r u n (j:Int)) = false):Fm r u n (j:Int) = can r u n:=by
 obtain ⟨i,hi,e⟩:=qog (R:=r) (U:=u) hpos
 obtain ⟨a1,a2⟩:=qd6 r u n (i:Int)
 obtain ⟨b1,b2⟩:=qd6 r u n (j:Int)
 refine Classical.byContradiction fun hne=>?_
 rw [e] at hne
 rcases qgi (by rw [b1,a1]) (by rw [b2,a2]) hne with q | q
 ·have:=qz2 (R:=r) (U:=u) (n:=n) hj
  rw [e,q] at this;cases this
 ·rw [h i hi] at q;cases q
theorem q08 (r u:List Int) {n i:Nat} (hn:n<=24) (hpos:0 < n) (w:World) :
  (Op.equalIn 10000 43 (.agg (V (frm r u n i)).toArray) (.agg (V (cn r u n)).toArray)).run sqp.prog w = .ok (decide (Fm r u n (i:Int) = can r u n)) w:=by
 unfold frm cn
 rw [q1p (qc _) (qc _) (qc _) (qc _)]
 obtain ⟨j,hj,e⟩:=qog (R:=r) (U:=u) hpos
 obtain ⟨a1,a2⟩:=qd6 r u n (i:Int)
 obtain ⟨b1,b2⟩:=qd6 r u n (j:Int)
 rw [e]
 congr 1
 rw [decide_eq_decide]
 constructor
 ·rintro ⟨q1,q2⟩
  exact Prod.ext (qax (by rw [a1,b1]) (by omega) q1) (qax (by rw [a2,b2]) (by omega) q2)
 ·intro q;rw [q];exact ⟨rfl,rfl⟩
theorem qq8 (r u:List Int) (n:Nat):(List.range n).countP (fun (i:Nat)=>decide (Fm r u n (i:Int) = can r u n)) = sym r u n:=by
 unfold sym rng
 rw [List.countP_map]
 rfl
set_option maxHeartbeats 4000000 in
theorem qq9 (r u:List Int) (n:Nat) (w:World) (s:Sf n r u) :
  Calls sqp.prog 56 #[.agg (V (gl (ext r) (ext u) n)).toArray] w fun e w'=>∃ B D m,e = .returned (.tuple #[.agg (V (gl (ext (can r u n).1) (ext (can r u n).2) n)).toArray,.map (some B)])/\w'.ownsMap sqp.prog 3 qdf B m D/\Maps.size D = sym r u n/\Below w.heap.size w w':=by
 have hn24:n<=24:=by have:=s.r.len;have:=s.lr;omega
 have HS:=Lib.hid s;clear s
 have hmm:=@run_makeMap sqp.prog
 have NG:Hid (∀ a b,Arr (((w.alloc (.cells (V (gl (ext r) (ext u) n)).toArray 43)).alloc a).alloc b) w.heap.size (V (gl (ext r) (ext u) n)) 43):=Lib.hid (fun a b=>((Arr.new w _ _ rfl).alloc _).alloc _)
 have cc:=fun a b=>qul (n:=n) (qc r) (qc u) (NG.out a b)
 go_enter sqp.func56,sqp.ntmps56
 go_wp2_with fail
 go_loopw [15] (fun i wr=>∃ k:Nat,k<=n/\i = .int .i64 k/\∃ D,C1 w wr r u n k D) (fun i _=>n - (intOf i).toNat)
 case atStart =>
  refine ⟨0,Nat.zero_le _,rfl,.map [],?_,?_,?_,Holds.empty _ _,?_⟩
  ·exact NG.out _ _
  ·exact (Arr.new _ (V qp) _ (by simp)).alloc _
  ·exact qyj (by simp)
  ·exact (((Below.refl _ _).alloc (Nat.le_refl _) _).alloc (by simp) _).alloc (by simp;omega) _
 case round =>
  obtain ⟨k,hk,rfl,D,hc⟩:=hrel
  have HC:=Lib.hid hc;clear hc cc NG
  have hszw:w.heap.size + 2 < wr.heap.size:=HC.out.mp.lt
  by_cases hlt:k < n
  ·go_wp2_with (refine wpList_load_row rfl 43 _ rfl w.heap.size rfl 43 (V (gl (ext r) (ext u) n)).toArray (0,0) _ HC.out.g sqp.underlying43 rfl (zu (jg (qc _) (qc _) _)) ?_)
   refine (qrg (ext r) (ext u) n k _ HS.out.r.sq HS.out.u.sq (by omega)).mono ?_
   rintro e w1 ⟨rfl,b1⟩
   have hnf:qqi (ext r) (ext u) (k:Int) = nf r u k:=qyn HS.out (by omega) (by omega)
   rw [hnf]
   have HC1:=Lib.hid (HC.out.keep b1)
   clear b1 hnf HC
   go_wp2_with (at_mapUpdate;refine wpList_mapUpdate_own _ rfl _ _ _ 93 rfl 3 41 qxj sqp.underlying93 qdf (w.heap.size + 2) k D rfl HC1.out.mp (by unfold maxLen;omega) _ _ (kk k) rfl rfl (qrz (by omega)) (dat (nf r u k)) [] (qil _) ?_;intro w2 hown2 hgrow2)
   have HC2:Hid (C1 w w2 r u n (k + 1) (D.put (kk k) (dat (nf r u k)))):=Lib.hid (HC1.out.put hown2 hgrow2)
   clear hown2 hgrow2 HC1
   go_roundw
   case rel=>exact ⟨k + 1,by omega,by go_num,_,HC2.out⟩
   case measure=>simp [intOf];omega
  ·obtain rfl:k = n:=by omega
   have hpos:=HS.out.pos
   have hlk:(Instr.lookup 93 (.map (some (w.heap.size + 1 + 1))) (.int .i64 0) false).run sqp.prog wr = .ok (.agg (V (nf r u 0)).toArray) wr:=HC.out.look (i:=0) hpos hn24
   go_wp2_with (refine wpList_load_row rfl 43 _ rfl w.heap.size rfl 43 (V (gl (ext r) (ext u) k)).toArray (0,0) _ HC.out.g sqp.underlying43 rfl (zu (jg (qc _) (qc _) _)) ?_)
   refine (qdp (ext r) (ext u) (nf r u 0) k _ HS.out.r.sq HS.out.u.sq (qyi HS.out hpos)).mono ?_
   rintro e w1 ⟨rfl,b1⟩
   rw [qls HS.out hpos]
   have HC1:=Lib.hid (HC.out.keep b1)
   have hs1:=b1.size
   clear b1 HC hlk
   go_wp2_with (first | (refine wpList_store_row rfl 43 _ _ rfl w1.heap.size (V (frm r u k 0)).toArray rfl rfl 43 (V qp).toArray (Arr.new w1 (V qp) _ rfl) (zu (qbu _ _ _ _)) (by simp [q8,qbu,qp]) (zy _) ?_;generalize hw2:(w1.alloc (.cells #[.int .i64 0,.int .i64 0,.int .i64 0,.int .i64 0,.int .i64 0,.int .i64 0,.int .i64 0,.int .i64 0,.int .i64 0,.int .i64 0,.int .i64 0,.int .i64 0,.int .i64 0,.int .i64 0,.int .i64 0,.int .i64 0,.int .i64 0,.int .i64 0,.int .i64 0,.int .i64 0,.int .i64 0,.int .i64 0,.int .i64 0,.int .i64 0,.int .i64 0,.int .i64 0,.int .i64 0,.int .i64 0,.int .i64 0,.int .i64 0,.int .i64 0,.int .i64 0,.int .i64 0,.int .i64 0,.int .i64 0,.int .i64 0,.int .i64 0,.int .i64 0,.int .i64 0,.int .i64 0,.int .i64 0,.int .i64 0,.int .i64 0,.int .i64 0,.int .i64 0,.int .i64 0,.int .i64 0,.int .i64 0,.int .i64 0] 43)).setRow w1.heap.size (V (frm r u k 0)).toArray = w2;have b2:Below w1.heap.size w1 w2:=(by rw [<-hw2];exact arr.below_setRow ((Below.refl _ _).alloc (Nat.le_refl _) _) (Nat.le_refl _) _);have A2:Hid (Arr w2 w1.heap.size (V (frm r u k 0)) 43):=Lib.hid (by rw [<-hw2];exact (Arr.new w1 (V qp) _ rfl).row);have HC2:=Lib.hid (HC1.out.keep b2);clear hw2 b2 HC1) | (at_range;refine wpList_range_own _ rfl _ 93 rfl 3 41 qxj sqp.underlying93 qdf (w.heap.size + 2) k D rfl HC2.out.mp ?_;intro w3 hrg0 hg0 hs0;go_frame) | fail)
   have HH:=Lib.hid HC2.out.holds
   have HB0:Hid (C3 w w3 r u k w1.heap.size w2.heap.size D (has D) (size D) (frm r u k 0)):=Lib.hid ⟨hrg0,(C2.mk HC2.out.g HC2.out.res A2.out (by omega) HC2.out.below).grown hg0 (fun k hk=>by cases hk),A2.out.lt⟩
   clear hg0 hs0 hrg0 HC2 A2
   generalize w2.heap.size = R at *
   generalize w1.heap.size = L at *
   go_loopw [33] (fun _ wr=>∃ (left:Lit->Bool) (cnt j:Nat),C3 w wr r u k L R D left cnt (frm r u k j)/\j < k/\(∀ kl,left kl = true->has D kl = true)/\(∀ i,i < k->left (kk i) = false->bef (Fm r u k (i:Int)) (Fm r u k (j:Int)) = false)) (fun _ wr=>wr.rangeLeft (w.heap.size + 2) R)
   case atStart=>exact ⟨_,_,0,HB0.out,hpos,fun kl h=>h,fun i hi h=>by rw [HH.out.has_ i hi rfl] at h;cases h⟩
   case round =>
    obtain ⟨left,cnt,j,hc3,hj,hsub,hmin⟩:=hrel
    have H3:=Lib.hid hc3;have HSUB:=Lib.hid hsub;have HMIN:=Lib.hid hmin
    clear hc3 hsub hmin HB0
    go_wp2_with (first | (at_next;refine wpList_next_ranges _ rfl _ rfl 3 qxj qdf (Value.int .i64) (fun l:List Int=>.agg (V l).toArray) qq5 qq6 (w.heap.size + 2) R k D left cnt rfl H3.out.rg ?_ ?_) | fail)
    ·intro hc0 hl0
     have HF:Hid (Fm r u k (j:Int) = can r u k):=Lib.hid (qq7 hpos hj (fun i hi=>HMIN.out i hi (hl0 _)))
     have HLS:Hid (frm r u k j = cn r u k):=Lib.hid (by unfold frm cn;rw [HF.out])
     rw [HLS.out] at H3
     clear hc0 hl0 HMIN HSUB HLS
     go_wp2_with (first | (at_range;refine wpList_range_own _ rfl _ 93 rfl 3 41 qxj sqp.underlying93 qdf (w.heap.size + 2) k D rfl H3.out.rg.owns ?_;intro w3 hrg0 hg0 hs0;go_frame) | fail)
     have HC0:Hid (C3 w w3 r u k L wr.heap.size D (has D) (size D) (cn r u k)):=Lib.hid ⟨hrg0,H3.out.c.grown hg0 (fun k hk=>by cases hk),H3.out.c.l.lt⟩
     have HH0:Hid (Holds D k (fun i=>has D (kk i) || decide (Fm r u k (i:Int) = can r u k)) (nf r u)):=Lib.hid (HH.out.congr (fun i hi=>by rw [HH.out.has_ i hi rfl];rfl))
     clear hg0 hs0 hrg0 H3 HH HF
     generalize wr.heap.size = R2 at *
     go_loopw [47] (fun _ wr=>∃ (left:Lit->Bool) (cnt:Nat) (D':DataW Unit),C3 w wr r u k L R2 D' left cnt (cn r u k)/\(∀ kl,left kl = true->has D' kl = true)/\Holds D' k (fun i=>left (kk i) || decide (Fm r u k (i:Int) = can r u k)) (nf r u)) (fun _ wr=>wr.rangeLeft (w.heap.size + 2) R2)
     case atStart=>exact ⟨_,_,_,HC0.out,fun kl h=>h,HH0.out⟩
     case round =>
      obtain ⟨left,cnt,D',hc3,hsub,hhold⟩:=hrel
      have H3:=Lib.hid hc3;have HSUB:=Lib.hid hsub;have HH:=Lib.hid hhold
      clear hc3 hsub hhold HC0 HH0
      go_wp2_with (first | (at_next;refine wpList_next_ranges _ rfl _ rfl 3 qxj qdf (Value.int .i64) (fun l:List Int=>.agg (V l).toArray) qq5 qq6 (w.heap.size + 2) R2 k D' left cnt rfl H3.out.rg ?_ ?_) | fail)
      ·intro hc0 hl0
       have HSZ:Hid (Maps.size D' = sym r u k):=Lib.hid (by
        obtain ⟨es,e1,e2,e3⟩:=H3.out.rg.owns.entries qxj
        rw [(HH.out.congr (keep':=fun (i:Nat)=>decide (Fm r u k (i:Int) = can r u k)) (fun i hi=>by rw [hl0];simp)).size e1 e2 e3]
        exact qq8 r u k)
       clear hc0 hl0
       go_wp2_with (first | (refine wpList_load_row rfl 43 _ rfl L rfl 43 (V (cn r u k)).toArray (0,0) _ H3.out.c.l sqp.underlying43 rfl (zu (qjv _ _ _)) ?_) | (refine wpList_store_row rfl 43 _ _ rfl (w.heap.size + 1) (V (cn r u k)).toArray rfl rfl 43 (V qp).toArray H3.out.c.res (zu (qjv _ _ _)) (by simp [q8,qjv,qp]) (zy _) ?_) | fail)
       exact bodyPost_ret (v:=.tuple #[.agg (V (cn r u k)).toArray,.map (some (w.heap.size + 2))]) (permOf.results_cell_tmp rfl _ _ (w.heap.size + 1) 43 (V (cn r u k)).toArray (0,0) _ _ rfl rfl H3.out.c.res.row sqp.underlying43 rfl (zu (qjv _ _ _))) rfl
        ⟨w.heap.size + 2,D',k,rfl,H3.out.rg.owns.kept (row:=some (w.heap.size + 1)) ⟨rfl,rfl,rfl,by simp,fun i hi hne=>setRow_other _ _ i _ (fun e=>hne (by rw [e]))⟩ (by simp),HSZ.out,below_setRow H3.out.c.below (by omega) _⟩
      ·intro x l kl y ps w4 cnt1 hkx hlk hy hat hrg1 hltc hg1 hs1 hen
       obtain ⟨i,hi,_,rfl,rfl,rfl⟩:=came HH.out hkx (HSUB.out _ hlk) hy hat
       have H4:Hid (C3 w w4 r u k L R2 D' (fun z=>left z && !z.sameKey (kk i)) cnt1 (cn r u k)):=Lib.hid ⟨hrg1,H3.out.c.grown hg1 (fun q hq=>by injection hq with e;exact .inr (by have:=H3.out.hR;omega)),H3.out.hR⟩
       have HLK:=Lib.hid hlk
       clear hkx hlk hy hat hrg1 hg1 hs1
       generalize hlf:(fun z=>left z && !z.sameKey (kk i)) = lf at H4
       have HLF:Hid (∀ kl,lf kl = (left kl && !kl.sameKey (kk i))):=Lib.hid (fun kl=>by rw [<-hlf])
       clear hlf
       go_wp2_with (first | (refine wpList_store_row rfl 41 _ _ rfl w4.heap.size (V (nf r u i)).toArray rfl rfl 41 (V zeros).toArray (Arr.new w4 (V zeros) _ rfl) (qo (qc _)) (by simp [q8,nf,qc,zeros]) (zy _) ?_;generalize hw5:(w4.alloc (.cells #[.int .i64 0,.int .i64 0,.int .i64 0,.int .i64 0,.int .i64 0,.int .i64 0,.int .i64 0,.int .i64 0,.int .i64 0,.int .i64 0,.int .i64 0,.int .i64 0,.int .i64 0,.int .i64 0,.int .i64 0,.int .i64 0,.int .i64 0,.int .i64 0,.int .i64 0,.int .i64 0,.int .i64 0,.int .i64 0,.int .i64 0,.int .i64 0] 41)).setRow w4.heap.size (V (nf r u i)).toArray = w5;have b2:Below w4.heap.size w4 w5:=(by rw [<-hw5];exact arr.below_setRow ((Below.refl _ _).alloc (Nat.le_refl _) _) (Nat.le_refl _) _);have A8:Hid (Arr w5 w4.heap.size (V (nf r u i)) 41):=Lib.hid (by rw [<-hw5];exact (Arr.new w4 (V zeros) _ rfl).row);replace H4:=Lib.hid (H4.out.keep b2);clear hw5 b2) | fail)
       refine wp_region_held_drew (S:=Hld w5.heap.size w5.heap.size w5 [(w.heap.size,V (gl (ext r) (ext u) k)),(w4.heap.size,V (nf r u i)),(L,V (cn r u k))]) (by kernel_rfl) (Hld.qxc H4.out.c.g A8.out H4.out.c.l) (fun hHeld=>?_)
       have b1:=hHeld.below
       generalize w5.drew = w6 at *
       replace H4:=Lib.hid (H4.out.keep b1)
       clear b1 A8 hen
       refine wpAnyH_take (i:=0) (v:=.agg (V (gl (ext r) (ext u) k)).toArray) rfl (by kernel_rfl) (by kernel_rfl) (by kernel_rfl) (fun _ _ _ h=>h) (yieldsIf_load_mid (by rfl) _ _ rfl w.heap.size 0 rfl (V (gl (ext r) (ext u) k)) _ (fun w h=>h.fst) sqp.underlying43 rfl (q3h (jg (qc _) (qc _) _))) hHeld ?_
       refine wpAnyH_take (i:=1) (v:=.agg (V (nf r u i)).toArray) rfl (by kernel_rfl) (by kernel_rfl) (by kernel_rfl) (fun _ _ _ h=>h) (yieldsIf_load_mid (by rfl) _ _ rfl w4.heap.size 0 rfl (V (nf r u i)) _ (fun w h=>h.snd) sqp.underlying41 rfl (qii (qc _))) hHeld ?_
       refine wpAnyH_take (i:=3) (v:=.agg (V (cn r u k)).toArray) rfl (by kernel_rfl) (by kernel_rfl) (by kernel_rfl) (fun _ _ _ h=>h) (yieldsIf_load_mid (by rfl) _ _ rfl L 0 rfl (V (cn r u k)) _ (fun w h=>h.trd) sqp.underlying43 rfl (q3h (qjv _ _ _))) hHeld ?_
       refine wpAnyH_ready (rs:=[2]) (by kernel_rfl) (by simp) (AllReadyH.cons rfl (fun K hK=>?_) AllReadyH.nil)
       go_simp
       refine (qdp (ext r) (ext u) (nf r u i) k _ HS.out.r.sq HS.out.u.sq (qyi HS.out hi)).mono ?_
       rintro e w7 ⟨rfl,b1⟩
       rw [qls HS.out hi]
       replace H4:=Lib.hid (H4.out.keep b1)
       go_wp2_with fail
       have hHeld2:=hHeld.later b1 (Nat.le_refl _);clear b1 hHeld
       refine hK.out _ _ hHeld2 (fun hHeld=>?_)
       clear hK K hHeld2
       have heq:=q08 r u (i:=i) hn24 hpos w7
       refine wpAnyH_ready (rs:=[4]) (by kernel_rfl) (by simp) (AllReadyH.cons rfl (fun K hK=>?_) AllReadyH.nil)
       refine ql3 rfl _ _ _ rfl _ _ rfl rfl _ heq ?_
       change K (Act.put _ (some 53) _) _
       simp only [Act.put,List.setIfInBounds_toArray,List.set_cons_zero,List.set_cons_succ]
       refine hK.out _ _ hHeld (fun hHeld2=>?_)
       clear hK K hHeld hHeld2 heq
       refine wpAnyH_done (by kernel_rfl) ?_ _
       by_cases hf:Fm r u k (i:Int) = can r u k
       ·have HFC:=Lib.hid hf
        have hd:decide (Fm r u k (i:Int) = can r u k) = true:=decide_eq_true hf
        rw [hd]
        clear hf hd
        go_wp2_with fail
        go_roundw
        case rel=>exact ⟨lf,cnt1,D',H4.out,fun kl h=>HSUB.out kl (by rw [HLF.out] at h;simp at h;exact h.1),HH.out.congr (fun i' hi'=>by
         rw [HLF.out]
         by_cases e:i' = i
         ·subst e;rw [decide_eq_true HFC.out,HLK.out];simp
         ·rw [sameKey_ne (fun e2=>e (qd0 e2))];simp)⟩
        case measure=>rw [H4.out.rg.left_eq,H3.out.rg.left_eq];exact hltc
       ·have HFC:=Lib.hid hf
        have hd:decide (Fm r u k (i:Int) = can r u k) = false:=decide_eq_false hf
        rw [hd]
        clear hf hd
        go_wp2_with (first | (at_delete;refine wpList_delete_ranges _ rfl _ _ 93 3 rfl 41 qxj sqp.underlying93 qdf (w.heap.size + 2) R2 k D' lf cnt1 rfl H4.out.rg _ (kk i) rfl (qrz (by omega)) ?_;intro w8 cnt2 hrg2 hle hturn;go_frame) | fail)
        have e2:(fun z=>lf z && !z.sameKey (kk i)) = lf:=by
         funext z
         rw [HLF.out]
         cases left z <;> cases z.sameKey (kk i) <;> rfl
        rw [e2] at hrg2
        have H5:Hid (C3 w w8 r u k L R2 (D'.del (kk i)) lf cnt2 (cn r u k)):=Lib.hid ⟨hrg2,H4.out.c.grown hturn.grown (fun q hq=>by injection hq with e;exact .inl e.symm),H4.out.hR⟩
        clear hrg2 hturn
        go_roundw
        case rel=>exact ⟨lf,cnt2,_,H5.out,fun kl h=>by
         rw [HLF.out] at h
         simp only [Bool.and_eq_true,Bool.not_eq_true'] at h
         rw [has_del_other (fun e=>by subst e;rw [WideAt.sameKey_self (qkc i)] at h;cases h.2)]
         exact HSUB.out kl h.1,HH.out.del (fun i' hi' e=>by rw [HLF.out,sameKey_ne (fun e2=>e (qd0 e2))];simp) (by rw [HLF.out,WideAt.sameKey_self (qkc i),decide_eq_false HFC.out];simp)⟩
        case measure=>rw [H5.out.rg.left_eq,H3.out.rg.left_eq];omega
    ·intro x l kl y ps w4 cnt1 hkx hlk hy hat hrg1 hltc hg1 hs1 hen
     obtain ⟨i,hi,_,rfl,rfl,rfl⟩:=came HH.out hkx (HSUB.out _ hlk) hy hat
     have H4:Hid (C3 w w4 r u k L R D (fun z=>left z && !z.sameKey (kk i)) cnt1 (frm r u k j)):=Lib.hid ⟨hrg1,H3.out.c.grown hg1 (fun q hq=>by injection hq with e;exact .inr (by have:=H3.out.hR;omega)),H3.out.hR⟩
     clear hkx hlk hy hat hrg1 hg1 hs1
     generalize hlf:(fun z=>left z && !z.sameKey (kk i)) = lf at H4
     have HLF:Hid (∀ kl,lf kl = (left kl && !kl.sameKey (kk i))):=Lib.hid (fun kl=>by rw [<-hlf])
     clear hlf
     go_wp2_with (first | (refine wpList_store_row rfl 41 _ _ rfl w4.heap.size (V (nf r u i)).toArray rfl rfl 41 (V zeros).toArray (Arr.new w4 (V zeros) _ rfl) (qo (qc _)) (by simp [q8,nf,qc,zeros]) (zy _) ?_;generalize hw5:(w4.alloc (.cells #[.int .i64 0,.int .i64 0,.int .i64 0,.int .i64 0,.int .i64 0,.int .i64 0,.int .i64 0,.int .i64 0,.int .i64 0,.int .i64 0,.int .i64 0,.int .i64 0,.int .i64 0,.int .i64 0,.int .i64 0,.int .i64 0,.int .i64 0,.int .i64 0,.int .i64 0,.int .i64 0,.int .i64 0,.int .i64 0,.int .i64 0,.int .i64 0] 41)).setRow w4.heap.size (V (nf r u i)).toArray = w5;have b2:Below w4.heap.size w4 w5:=(by rw [<-hw5];exact arr.below_setRow ((Below.refl _ _).alloc (Nat.le_refl _) _) (Nat.le_refl _) _);have A8:Hid (Arr w5 w4.heap.size (V (nf r u i)) 41):=Lib.hid (by rw [<-hw5];exact (Arr.new w4 (V zeros) _ rfl).row);replace H4:=Lib.hid (H4.out.keep b2);clear hw5 b2) | (refine wpList_load_row rfl 43 _ rfl w.heap.size rfl 43 (V (gl (ext r) (ext u) k)).toArray (0,0) _ H4.out.c.g sqp.underlying43 rfl (zu (jg (qc _) (qc _) _)) ?_) | (refine wpList_load_row rfl 41 _ rfl w4.heap.size rfl 41 (V (nf r u i)).toArray (0,0) _ A8.out sqp.underlying41 rfl (qo (qc _)) ?_) | fail)
     refine (qdp (ext r) (ext u) (nf r u i) k _ HS.out.r.sq HS.out.u.sq (qyi HS.out hi)).mono ?_
     rintro e w6 ⟨rfl,b1⟩
     rw [qls HS.out hi]
     replace H4:=Lib.hid (H4.out.keep b1)
     clear b1 A8 hen
     go_wp2_with (first | (refine wpList_store_row rfl 43 _ _ rfl w6.heap.size (V (frm r u k i)).toArray rfl rfl 43 (V qp).toArray (Arr.new w6 (V qp) _ rfl) (zu (qbu _ _ _ _)) (by simp [q8,qbu,qp]) (zy _) ?_;generalize hw7:(w6.alloc (.cells #[.int .i64 0,.int .i64 0,.int .i64 0,.int .i64 0,.int .i64 0,.int .i64 0,.int .i64 0,.int .i64 0,.int .i64 0,.int .i64 0,.int .i64 0,.int .i64 0,.int .i64 0,.int .i64 0,.int .i64 0,.int .i64 0,.int .i64 0,.int .i64 0,.int .i64 0,.int .i64 0,.int .i64 0,.int .i64 0,.int .i64 0,.int .i64 0,.int .i64 0,.int .i64 0,.int .i64 0,.int .i64 0,.int .i64 0,.int .i64 0,.int .i64 0,.int .i64 0,.int .i64 0,.int .i64 0,.int .i64 0,.int .i64 0,.int .i64 0,.int .i64 0,.int .i64 0,.int .i64 0,.int .i64 0,.int .i64 0,.int .i64 0,.int .i64 0,.int .i64 0,.int .i64 0,.int .i64 0,.int .i64 0,.int .i64 0] 43)).setRow w6.heap.size (V (frm r u k i)).toArray = w7;have b2:Below w6.heap.size w6 w7:=(by rw [<-hw7];exact arr.below_setRow ((Below.refl _ _).alloc (Nat.le_refl _) _) (Nat.le_refl _) _);have A9:Hid (Arr w7 w6.heap.size (V (frm r u k i)) 43):=Lib.hid (by rw [<-hw7];exact (Arr.new w6 (V qp) _ rfl).row);replace H4:=Lib.hid (H4.out.keep b2);clear hw7 b2) | (refine wpList_load_row rfl 43 (.tmp 9) rfl w6.heap.size rfl 43 (V (frm r u k i)).toArray (0,0) _ A9.out sqp.underlying43 rfl (zu (qbu _ _ _ _)) ?_) | (refine wpList_load_row rfl 43 (.tmp 6) rfl L rfl 43 (V (frm r u k j)).toArray (0,0) _ H4.out.c.l sqp.underlying43 rfl (zu (qbu _ _ _ _)) ?_) | fail)
     refine (qfx (ext (Fm r u k (i:Int)).1) (ext (Fm r u k (i:Int)).2) (ext (Fm r u k (j:Int)).1) (ext (Fm r u k (j:Int)).2) k k _ (qc _) (qc _) (qc _) (qc _)).mono ?_
     rintro e w8 ⟨rfl,b1⟩
     replace H4:=Lib.hid (H4.out.keep b1)
     replace A9:=Lib.hid (A9.out.keep b1 A9.out.lt)
     clear b1
     have hcb:=qyk r u k i j hn24
     generalize qxa (ext (Fm r u k (i:Int)).1) (ext (Fm r u k (i:Int)).2) (ext (Fm r u k (j:Int)).1) (ext (Fm r u k (j:Int)).2) = cg at *
     by_cases hb:bef (Fm r u k (i:Int)) (Fm r u k (j:Int)) = true
     ·rw [hb] at hcb
      have HBF:=Lib.hid hb;clear hb
      go_wp2_with (first | (refine wpList_load_row rfl 43 (.tmp 9) rfl w6.heap.size rfl 43 (V (frm r u k i)).toArray (0,0) _ A9.out sqp.underlying43 rfl (zu (qbu _ _ _ _)) ?_) | (refine wpList_store_row rfl 43 _ _ rfl L (V (frm r u k i)).toArray rfl rfl 43 (V (frm r u k j)).toArray H4.out.c.l (zu (qbu _ _ _ _)) (by simp [q8,qbu]) (zy _) ?_;go_frame) | fail)
      have H5:=Lib.hid (H4.out.set (ls':=frm r u k i))
      go_roundw
      case rel=>exact ⟨lf,cnt1,i,H5.out,hi,fun kl h=>HSUB.out kl (by rw [HLF.out] at h;simp at h;exact h.1),fun i' hi' h=>by
       rw [HLF.out] at h
       rcases Bool.and_eq_false_iff.1 h with h | h
       ·exact q07 HBF.out (HMIN.out i' hi' h)
       ·have:=qd0 (WideAt.sameKey_eq (by simpa using h));subst this;exact qgh _⟩
      case measure=>rw [H5.out.rg.left_eq,H3.out.rg.left_eq];exact hltc
     ·have hb':bef (Fm r u k (i:Int)) (Fm r u k (j:Int)) = false:=by simpa using hb
      rw [hb'] at hcb
      have HBF:=Lib.hid hb';clear hb hb'
      go_wp2_with fail
      go_roundw
      case rel=>exact ⟨lf,cnt1,j,H4.out,hj,fun kl h=>HSUB.out kl (by rw [HLF.out] at h;simp at h;exact h.1),fun i' hi' h=>by
       rw [HLF.out] at h
       rcases Bool.and_eq_false_iff.1 h with h | h
       ·exact HMIN.out i' hi' h
       ·have:=qd0 (WideAt.sameKey_eq (by simpa using h));subst this;exact HBF.out⟩
      case measure=>rw [H4.out.rg.left_eq,H3.out.rg.left_eq];exact hltc
end Go.Proofs.Ytcdclihinmdgiaa.gl

namespace Go.Proofs.Ytcdclihinmdgiaa.gl
open Go.ChangeShapes Go.WideShapes Go.ChangeAt Go.RowKit
open mem ints arr pm permOk permOf inv fns sf
set_option linter.unusedVariables false
set_option maxRecDepth 100000
theorem Svl.row {w:World} {lo hi g:Nat} {v:Value} {r u:List Int} (h:Svl w lo hi v r u) (hg:g < lo) (cs:Array Value):Svl (w.setRow g cs) lo hi v r u :=
 h.out ((Out.refl 0 (g + 1) w).qvr (Nat.zero_le _) (Nat.lt_succ_self _) cs) (.inr (by omega))
end Go.Proofs.Ytcdclihinmdgiaa.gl

namespace Go.Proofs.Ytcdclihinmdgiaa.gl
open Go.ChangeShapes Go.WideShapes Go.ChangeAt Go.RowKit
open mem ints arr pm permOk permOf inv fns sf
set_option linter.unusedVariables false
set_option maxRecDepth 100000
end Go.Proofs.Ytcdclihinmdgiaa.gl

namespace Go.Proofs.Ytcdclihinmdgiaa.gl
open Go.ChangeShapes Go.WideShapes Go.ChangeAt Go.RowKit
open mem ints arr pm permOk permOf inv fns sf
set_option linter.unusedVariables false
set_option maxRecDepth 100000
theorem qq4 (r u:List Int) {n:Nat} (h:0 < n):(can r u n).1.length = n/\(can r u n).2.length = n:=by
 obtain ⟨j,hj,e⟩:=qog (R:=r) (U:=u) h
 rw [e];exact qd6 _ _ _ _
end Go.Proofs.Ytcdclihinmdgiaa.gl
