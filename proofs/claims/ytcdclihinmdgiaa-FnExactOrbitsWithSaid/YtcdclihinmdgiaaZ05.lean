import Derived.Test.YtcdclihinmdgiaaZ04
import Derived.Laws.Rows
import Derived.Deep.WholeRow
import Derived.Lib.SmallJoins
namespace Go.Proofs.Ytcdclihinmdgiaa.arr
open Go.ChangeShapes Go.WideShapes Go.ChangeAt Go.RowKit
open mem ints
set_option linter.unusedVariables false
set_option maxRecDepth 100000
def Arr (w:World) (g:Nat) (cs:List Value) (t:TypeId):Prop:=w.heap[g]? = some (.cells cs.toArray t (0,0))
theorem Arr.lt {w:World} {g:Nat} {cs:List Value} {t:TypeId} (h:Arr w g cs t):g < w.heap.size:=(Array.getElem?_eq_some_iff.1 h).1
theorem Arr.cell {w:World} {g k:Nat} {cs:List Value} {t:TypeId} {v:Value} (h:Arr w g cs t) (hk:cs[k]? = some v):w.cell? ⟨g,k,none⟩ = some v:=by
 unfold Arr at h
 simp [World.cell?,h,hk]
theorem Arr.frozen {w:World} {g:Nat} {cs:List Value} {t:TypeId} (h:Arr w g cs t) (k:Nat):w.frozen? ⟨g,k,none⟩ = false:=by
 unfold Arr at h
 simp [World.frozen?,h]
theorem Arr.qjo {w:World} {g:Nat} {cs:List Value} {t:TypeId} (h:Arr w g cs t) (k:Nat) (v:Value):Arr (w.setCell ⟨g,k,none⟩ v) g (cs.set k v) t:=by
 have:=heap_setCell_same w g k cs.toArray t v h
 simpa [Arr] using this
theorem Arr.other {w:World} {g g' k:Nat} {cs:List Value} {t:TypeId} (h:Arr w g cs t) (hne:g ≠ g') (v:Value):Arr (w.setCell ⟨g',k,none⟩ v) g cs t :=
 (heap_setCell_other w ⟨g',k,none⟩ g v hne).trans h
theorem Arr.keep {w w':World} {g B:Nat} {cs:List Value} {t:TypeId} (h:Arr w g cs t) (hb:Below B w w') (hB:g < B):Arr w' g cs t :=
 (hb.block g hB).trans h
theorem Arr.alloc {w:World} {g:Nat} {cs:List Value} {t:TypeId} (h:Arr w g cs t) (o:Obj):Arr (w.alloc o) g cs t :=
 (((Below.refl w.heap.size w).alloc (Nat.le_refl _) o).block g h.lt).trans h
theorem Arr.new (w:World) (cs:List Value) (t:TypeId) {g:Nat} (hg:g = w.heap.size):Arr (w.alloc (.cells cs.toArray t)) g cs t:=by
 subst hg
 exact heap_alloc_last w _
theorem Arr.row {w:World} {g:Nat} {cs cs':List Value} {t:TypeId} (h:Arr w g cs t):Arr (w.setRow g cs'.toArray) g cs' t:=setRow_heap w g _ _ t _ h
theorem Arr.qh {w:World} {g g':Nat} {cs:List Value} {cs':Array Value} {t:TypeId} (h:Arr w g cs t) (hne:g ≠ g'):Arr (w.setRow g' cs') g cs t:=(setRow_other w g' g cs' hne).trans h
theorem Arr.drew {w:World} {g:Nat} {cs:List Value} {t:TypeId} (h:Arr w g cs t) (n:Nat):Arr (w.drewN n) g cs t:=h
theorem below_setRow {B:Nat} {w w':World} (h:Below B w w') {g:Nat} (hg:B<=g) (cs:Array Value):Below B w (w'.setRow g cs) :=
 ⟨h.os,h.tape,h.output,by simpa using h.size,fun k hk=>(setRow_other w' g k cs (by omega)).trans (h.block k hk)⟩
theorem zy (l:List Int):(V l).toArray.all (·.oneCell') = true:=by simp [V,Value.oneCell']
theorem qjp:(sqp.prog.info? 41).map (·.size) = some 24:=by kernel_rfl
theorem qo {l:List Int} (h:l.length = 24):(sqp.prog.info? 41).map (·.size) = some (V l).toArray.size:=by rw [qjp];simp [V,h]
def zeros:List Int:=List.replicate 24 0
theorem bg {l:List Int} {k:Nat} (h:k < l.length):(V l)[k]? = some (.int .i64 (l.getD k 0)):=by
 simp [V,List.getD,h]
def tab (f:Nat->Int):List Int:=(List.range 24).map f
theorem jy (f:Nat->Int):(tab f).length = 24:=by simp [tab]
theorem qw2 (f:Nat->Int) {k:Nat} (h:k < 24):(tab f)[k]? = some (f k):=by simp [tab,h]
theorem qdm (f:Nat->Int) {k:Nat} (h:k < 24):(tab f).getD k 0 = f k:=by simp [tab,h]
theorem qlm (f f':Nat->Int) {k:Nat} (h:∀ j,j < 24->f' j = if j = k then f' k else f j):(tab f).set k (f' k) = tab f':=by
 refine List.ext_getElem? fun i=>?_
 by_cases hi:i < 24
 ·rw [qw2 _ hi,List.getElem?_set]
  by_cases e:k = i
  ·subst e;simp [jy,hi]
  ·rw [if_neg e,qw2 _ hi,h i hi,if_neg (by omega)]
 ·rw [List.getElem?_eq_none (by simp [jy];omega),List.getElem?_eq_none (by simp [jy];omega)]
def q4g (w wr:World) (k:Nat):Prop:=Arr wr w.heap.size (V zeros) 41/\Arr wr (w.heap.size + 1) (V (tab fun i=>if i < k then (i:Int) else 0)) 41/\Below w.heap.size w wr
def idl:List Int:=tab fun i=>(i:Int)
set_option maxHeartbeats 400000 in
theorem qdn (w:World) :
  Calls sqp.prog 55 #[] w fun e w'=>e = .returned (.agg (V idl).toArray)/\Below w.heap.size w w':=by
 go_enter sqp.func55,sqp.ntmps55
 go_wp2
 go_loopw [3] (fun i wr=>∃ k:Nat,k<=24/\i = .int .i64 k/\q4g w wr k) (fun i _=>24 - (intOf i).toNat)
 case atStart =>
  exact ⟨0,Nat.zero_le _,rfl,(Arr.new w (V zeros) _ rfl).alloc _,Arr.new _ (V zeros) _ (by simp),((Below.refl _ _).alloc (Nat.le_refl _) _).alloc (by simp) _⟩
 case round =>
  obtain ⟨k,hk,rfl,hst⟩:=hrel
  have HS:=Lib.hid hst;clear hst
  by_cases hlt:k < 24
  ·have hc:=HS.out.2.1.cell (bg (k:=k) (by rw [jy];exact hlt))
   have hf:=HS.out.2.1.frozen k
   go_wp2
   go_roundw
   case rel =>
    refine ⟨k + 1,by omega,by go_num,HS.out.1.other (by omega) _,?_,HS.out.2.2.setCell (by simp) _⟩
    have h:=HS.out.2.1.qjo k (.int .i64 (k:Int))
    rw [qj7] at h
    have e:=qlm (fun i=>if i < k then (i:Int) else 0) (fun i=>if i < k + 1 then (i:Int) else 0) (k:=k) (fun j hj=>by
     by_cases e:j = k
     ·subst e;simp
     ·simp [e];split <;> split <;> omega)
    simp only [Nat.lt_succ_self,if_true] at e
    rw [e] at h
    exact h
   case measure=>simp [intOf];omega
  ·obtain rfl:k = 24:=by omega
   have e:tab (fun i=>if i < 24 then (i:Int) else 0) = idl:=by decide
   have h2:=HS.out.2.1;rw [e] at h2
   have H2:=Lib.hid h2;clear h2 e
   go_wp2_with (first | (refine wpList_load_row rfl 41 _ rfl (w.heap.size + 1) rfl 41 (V idl).toArray (0,0) _ H2.out sqp.underlying41 rfl (qo (jy _)) ?_) | (refine wpList_store_row rfl 41 _ _ rfl w.heap.size (V idl).toArray rfl rfl 41 (V zeros).toArray HS.out.1 (qo (jy _)) (by simp [q8,idl,jy,zeros]) (zy _) ?_))
   exact bodyPost_ret (v:=.agg (V idl).toArray) (results_cell_row rfl _ _ w.heap.size 41 (V idl).toArray (0,0) _ rfl HS.out.1.row sqp.underlying41 rfl (qo (jy _))) rfl ⟨rfl,below_setRow HS.out.2.2 (Nat.le_refl _) _⟩
end Go.Proofs.Ytcdclihinmdgiaa.arr

namespace Go.Proofs.Ytcdclihinmdgiaa.sf
open Go.ChangeShapes Go.WideShapes Go.ChangeAt Go.RowKit Go.Joins Go.Deep
open mem ints arr
set_option linter.unusedVariables false
set_option maxRecDepth 100000
def Svl (w:World) (lo hi:Nat) (v:Value) (r u:List Int):Prop :=
 ∃ P n c Q m d l1 h1 l2 h2,v = .agg #[.slice P n c,.slice Q m d]/\Row w l1 h1 P n (V r)/\Row w l2 h2 Q m (V u)/\n<=c/\m<=d/\lo<=l1/\h1<=hi/\lo<=l2/\h2<=hi/\(h1<=l2\/h2<=l1)/\hi<=w.heap.size
def Srd (w:World) (hi:Nat) (v:Value) (r u:List Int):Prop :=
 ∃ P n c Q m d,v = .agg #[.slice P n c,.slice Q m d]/\Rd w hi P n (V r)/\Rd w hi Q m (V u)/\n<=c/\m<=d
theorem Rd.wider {w:World} {hi hi' n:Nat} {A:Option Addr} {xs:List Value} (h:Rd w hi A n xs) (h1:hi<=hi') (h2:hi'<=w.heap.size):Rd w hi' A n xs :=
 ⟨h.1,h2,fun hn=>by
  obtain ⟨g,off,e,hlt,hc⟩:=h.2.2 hn
  exact ⟨g,off,e,by omega,hc⟩⟩
theorem Svl.rd {w:World} {lo hi:Nat} {v:Value} {r u:List Int} (h:Svl w lo hi v r u):Srd w hi v r u:=by
 obtain ⟨P,n,c,Q,m,d,l1,h1,l2,h2,rfl,a,b,e1,e2,f1,f2,f3,f4,f5,f6⟩:=h
 exact ⟨P,n,c,Q,m,d,rfl,Rd.wider a.rd f2 f6,Rd.wider b.rd f4 f6,e1,e2⟩
theorem Svl.top {w:World} {lo hi:Nat} {v:Value} {r u:List Int} (h:Svl w lo hi v r u):hi<=w.heap.size:=by
 obtain ⟨P,n,c,Q,m,d,l1,h1,l2,h2,rfl,a,b,e1,e2,f1,f2,f3,f4,f5,f6⟩:=h
 exact f6
theorem Srd.top {w:World} {hi:Nat} {v:Value} {r u:List Int} (h:Srd w hi v r u):hi<=w.heap.size:=by
 obtain ⟨P,n,c,Q,m,d,rfl,a,b,e1,e2⟩:=h
 exact a.2.1
theorem Svl.keep {w w':World} {lo hi B:Nat} {v:Value} {r u:List Int} (h:Svl w lo hi v r u) (hb:Below B w w') (hB:hi<=B):Svl w' lo hi v r u:=by
 obtain ⟨P,n,c,Q,m,d,l1,h1,l2,h2,rfl,a,b,e1,e2,f1,f2,f3,f4,f5,f6⟩:=h
 exact ⟨P,n,c,Q,m,d,l1,h1,l2,h2,rfl,a.keep hb (by omega),b.keep hb (by omega),e1,e2,f1,f2,f3,f4,f5,Nat.le_trans f6 hb.size⟩
theorem Srd.keep {w w':World} {hi B:Nat} {v:Value} {r u:List Int} (h:Srd w hi v r u) (hb:Below B w w') (hB:hi<=B):Srd w' hi v r u:=by
 obtain ⟨P,n,c,Q,m,d,rfl,a,b,e1,e2⟩:=h
 exact ⟨P,n,c,Q,m,d,rfl,a.keep hb hB,b.keep hb hB,e1,e2⟩
theorem Svl.out {w w':World} {lo hi lo' hi':Nat} {v:Value} {r u:List Int} (h:Svl w lo hi v r u) (ho:Out lo' hi' w w') (hd:hi<=lo'\/hi'<=lo):Svl w' lo hi v r u:=by
 obtain ⟨P,n,c,Q,m,d,l1,h1,l2,h2,rfl,a,b,e1,e2,f1,f2,f3,f4,f5,f6⟩:=h
 exact ⟨P,n,c,Q,m,d,l1,h1,l2,h2,rfl,a.out ho (by omega),b.out ho (by omega),e1,e2,f1,f2,f3,f4,f5,Nat.le_trans f6 ho.size⟩
theorem Svl.later {w:World} {lo lo' hi:Nat} {v:Value} {r u:List Int} (h:Svl w lo hi v r u) (hl:lo'<=lo):Svl w lo' hi v r u:=by
 obtain ⟨P,n,c,Q,m,d,l1,h1,l2,h2,rfl,a,b,e1,e2,f1,f2,f3,f4,f5,f6⟩:=h
 exact ⟨P,n,c,Q,m,d,l1,h1,l2,h2,rfl,a,b,e1,e2,by omega,f2,by omega,f4,f5,f6⟩
theorem Svl.wide {w:World} {lo hi:Nat} {v:Value} {r u:List Int} (h:Svl w lo hi v r u):Svl w lo w.heap.size v r u:=by
 obtain ⟨P,n,c,Q,m,d,l1,h1,l2,h2,rfl,a,b,e1,e2,f1,f2,f3,f4,f5,f6⟩:=h
 exact ⟨P,n,c,Q,m,d,l1,h1,l2,h2,rfl,a,b,e1,e2,f1,by omega,f3,by omega,f5,Nat.le_refl _⟩
theorem um {w:World} {base:Nat} {e:TypeId} {n n' c:Nat} {A:Option Addr} {xs:List Value} (h:w.ownsRow base e 1 (.slice A n' c) n xs):n' = n/\n<=c:=by
 rcases h.2 with ⟨q,rfl⟩ | ⟨g,cap,cur,q,_,_,hc,_⟩
 ·injection q with _ q2 q3;subst q2;subst q3;exact ⟨rfl,Nat.le_refl _⟩
 ·injection q with _ q2 q3;subst q2;subst q3;exact ⟨rfl,hc⟩
theorem _root_.Go.Proofs.Ytcdclihinmdgiaa.mem.Out.qvr {lo hi g:Nat} {w w':World} (h:Out lo hi w w') (h1:lo<=g) (h2:g < hi) (cs:Array Value):Out lo hi w (w'.setRow g cs) :=
 ⟨h.os,h.tape,h.output,by simpa using h.size,fun k hk hne=>(setRow_other w' g k cs (by omega)).trans (h.block k hk hne)⟩
theorem Svl.mk2 {w:World} {lo l2:Nat} {P Q:Option Addr} {n c m d:Nat} {r u:List Int} (a:Row w lo l2 P n (V r)) (b:Row w l2 w.heap.size Q m (V u)) (hl:lo<=l2) (e1:n<=c) (e2:m<=d):Svl w lo w.heap.size (.agg #[.slice P n c,.slice Q m d]) r u :=
 ⟨P,n,c,Q,m,d,lo,l2,l2,w.heap.size,rfl,a,b,e1,e2,Nat.le_refl _,a.2.1,hl,Nat.le_refl _,.inl (Nat.le_refl _),Nat.le_refl _⟩
theorem Svl.len {w:World} {lo hi:Nat} {v:Value} {r u:List Int} (h:Svl w lo hi v r u):∃ P c Q d,v = .agg #[.slice P r.length c,.slice Q u.length d]:=by
 obtain ⟨P,n,c,Q,m,d,l1,h1,l2,h2,rfl,a,b,e1,e2,f1,f2,f3,f4,f5,f6⟩:=h
 have q1:r.length = n:=by simpa [V] using a.1
 have q2:u.length = m:=by simpa [V] using b.1
 subst q1;subst q2
 exact ⟨P,c,Q,d,rfl⟩
theorem Svl.lens {w:World} {lo hi:Nat} {v:Value} {r u:List Int} (h:Svl w lo hi v r u) {n m:Nat} (h1:r.length = n) (h2:u.length = m):∃ P c Q d,v = .agg #[.slice P n c,.slice Q m d]:=by
 subst h1;subst h2;exact h.len
set_option maxHeartbeats 400000 in
theorem qzt (x y:Value) (r u r' u':List Int) (h1 h2:Nat) (w:World) (hx:Srd w h1 x r u) (hy:Srd w h2 y r' u') (hn:r.length<=1048576) (hm:u.length<=1048576) (hn':r'.length<=1048576) (hm':u'.length<=1048576) :
  Calls sqp.prog 41 #[x,y] w fun e w'=>e = .returned (.bool (eqi r r' && eqi u u'))/\Below w.heap.size w w':=by
 obtain ⟨P,n,c,Q,m,d,rfl,rp,rq,_,_⟩:=hx
 obtain ⟨P',n',c',Q',m',d',rfl,rp',rq',_,_⟩:=hy
 have q1:r.length = n:=by simpa [V] using rp.1
 have q2:u.length = m:=by simpa [V] using rq.1
 have q1':r'.length = n':=by simpa [V] using rp'.1
 have q2':u'.length = m':=by simpa [V] using rq'.1
 have RP:=Lib.hid rp;have RQ:=Lib.hid rq;have RP':=Lib.hid rp';have RQ':=Lib.hid rq';clear rp rq rp' rq'
 have HI:=RP.out.2.1;have HI':=RP'.out.2.1
 have B1:Hid (∀ a b,Below w.heap.size w ((w.alloc a).alloc b)):=Lib.hid (fun a b=>((Below.refl _ _).alloc (Nat.le_refl _) _).alloc (by simp <;> omega) _)
 go_enter sqp.func41,sqp.ntmps41
 go_wp2_with fail
 refine (qxh P n c P' n' c' r r' _ _ _ (RP.out.keep (B1.out _ _) HI) (RP'.out.keep (B1.out _ _) HI') (by unfold maxLen;omega) (by unfold maxLen;omega)).mono ?_
 rintro e w1 ⟨rfl,d1⟩
 by_cases hh:eqi r r' = true
 ·rw [hh]
  have D1:=Lib.hid d1;clear d1
  have c1:=(((Arr.new w [.slice P n c,.slice Q m d] 32 rfl).alloc (.cells #[.slice P' n' c',.slice Q' m' d'] 32)).keep (D1.out.below (w.heap.size + 2)) (by omega)).cell (k:=1) rfl
  have c2:=((Arr.new (w.alloc (.cells #[.slice P n c,.slice Q m d] 32)) [.slice P' n' c',.slice Q' m' d'] 32 (g:=w.heap.size + 1) (by simp <;> omega)).keep (D1.out.below (w.heap.size + 2)) (by omega)).cell (k:=1) rfl
  go_wp2_with fail
  refine (qxh Q m d Q' m' d' u u' _ _ _ (RQ.out.keep ((B1.out _ _).trans (D1.out.below _)) HI) (RQ'.out.keep ((B1.out _ _).trans (D1.out.below _)) HI') (by unfold maxLen;omega) (by unfold maxLen;omega)).mono ?_
  rintro e w2 ⟨rfl,d2⟩
  have BB:Hid (Below w.heap.size w w2):=Lib.hid (((B1.out _ _).trans (D1.out.below _)).trans (d2.below _))
  clear d2
  have HH:=Lib.hid hh;clear hh
  cases hq:eqi u u' <;> (have HQ:=Lib.hid hq;clear hq;go_wp2_with fail;go_ret;exact ⟨qx (by rw [HH.out,HQ.out];rfl),BB.out⟩)
 ·have hf:eqi r r' = false:=by simpa using hh
  rw [hf]
  have BB:Hid (Below w.heap.size w w1):=Lib.hid ((B1.out _ _).trans (d1.below _))
  have HH:=Lib.hid hf;clear d1 hf hh
  go_wp2_with fail
  go_ret
  exact ⟨qx (by rw [HH.out];rfl),BB.out⟩
end Go.Proofs.Ytcdclihinmdgiaa.sf

namespace Go.Proofs.Ytcdclihinmdgiaa.sqo
open Go sq
set_option linter.unusedVariables false
set_option maxRecDepth 100000
def lM:List Nat:=[3,4,5,6,7,8,9,10,11,12,13,14,15,16,17,18,19,20,21,22,23,24,25,26,27,28,29,30,31,32,33,34,35,37,38,39,40,41,42,43,44,45,46,47,48,49,50,51,52,53,54,55,56,57,58,61,62,63,64,65,66,67,68,69,70,71,72,73,75,76,77,82]
def lC:List Nat:=[14,30,31,34,54,55,56,59,60,69,70,71,74,76,77,78,79,80,81]
def lA:List Nat:=[3,4,5,6,7,8,9,10,11,12,13,14,15,16,17,18,19,20,21,22,23,24,25,26,27,28,29,30,31,32,33,34,35,37,38,39,40,41,42,43,44,45,46,47,48,49,50,51,52,53,54,55,56,57,58,59,60,61,62,63,64,65,66,67,68,69,70,71,72,73,74,75,76,77,78,79,80,81,82]
def lX:List Nat:=[36,3,4,5,6,7,8,9,10,11,12,13,14,15,16,17,18,19,20,21,22,23,24,25,26,27,28,29,30,31,32,33,34,35,37,38,39,40,41,42,43,44,45,46,47,48,49,50,51,52,53,54,55,56,57,58,59,60,61,62,63,64,65,66,67,68,69,70,71,72,73,74,75,76,77,78,79,80,81,82]
def kl:List Nat:=[3,4,5,6,7,8,9,10,11,12,13,14,15,16,17,18,19,20,21,22,23,24,25,26,27,28,29,30,31,32,33,34,35,36,37,38,39,40,41,42,43,44,45,46,47,48,49,50,51,52,53,54,55,56,57,58,59,60,61,62,63,64,65,66,67,68,69,70,71,72,73,74,75,76,77,78,79,80,81,82]
theorem qvu {l:List Nat} {n:Nat} (h:(l.all fun f=>decide (f < n)) = true) {f:Nat} (hf:f ∈ l):f < n:=by
 have:=List.all_eq_true.1 h f hf
 simpa using this
theorem qks {l k:List Nat} (h:(l.all fun f=>k.contains f) = true) {f:Nat} (hf:f ∈ l):k.contains f = true:=List.all_eq_true.1 h f hf
def win:Bool:=false
abbrev qt3 (n:Nat):Cal:=q0n lM [] n (by decide +kernel) (by decide +kernel) win
abbrev qmc:Cal:=q0n lC [36] 0 (by decide +kernel) (by decide +kernel) win
abbrev qpq:Cal:=q0n lA [36] 0 (by decide +kernel) (by decide +kernel) win
def X:Cs:=⟨qpq,qmc⟩
def K (f:FuncId):Prop:=kl.contains f = true
def KT (f:FuncId):Prop:=(103 :: kl).contains f = true
theorem q3p {f:FuncId} (h:K f):f < nfn:=qvu (n:=nfn) (by decide +kernel:(kl.all fun f=>decide (f < nfn)) = true) (by simpa [K] using h)
theorem q3q {f:FuncId} (h:KT f):f < nfn + 2:=qvu (n:=nfn + 2) (by decide +kernel:((103 :: kl).all fun f=>decide (f < nfn + 2)) = true) (by simpa [KT] using h)
theorem cut:Cut Try.prog sqp.prog 6 where
 twin:=sqp.twin
 eqg t:=(sqp.qvv t).symm
 glob:=by kernel_rfl
 bad:=by kernel_rfl
 size:=by kernel_rfl
 funcs:=⟨sqp.qzx,sqp.q29,sqp.qzy,sqp.fGo,by kernel_rfl⟩
 orb:=⟨Try.f16,Try.func16,sqp.func16⟩
 clo:=⟨Try.f59,Try.func59,sqp.func59⟩
theorem qzv:Extern.findNext Try.f61 = none:=by kernel_rfl
theorem qzw:Extern.find Try.f61 = some (Extern.SlicesOverlaps.overlaps Try.f61.params Try.f61.resultTypes):=by kernel_rfl
theorem ext:qt0 win Try.prog [61]:=by
 intro f hf
 simp at hf
 subst hf
 exact ⟨by decide,by decide,fun F hF=>by rw [Try.func61] at hF;cases hF;exact ⟨qzv,_,.inr ⟨rfl,_,_,rfl⟩,qzw⟩⟩
theorem fnA:(lX.all (fnB Try.prog [61])) = true:=by kernel_rfl
theorem fnM:(lM.all (fnB Try.prog [61])) = true:=by kernel_rfl
theorem fnC:((36 :: lC).all (fnB Try.prog [61])) = true:=by kernel_rfl
theorem q3r:(lX.all (@qei qpq sqp.prog sqp.prog fun o=>@qlk qpq sqp.prog o.op)) = true:=by kernel_rfl
theorem q3s (n:Nat):((lM.filter fun f=>!(f == qd2 || f == qoh)).all (@qei (qt3 n) Try.prog sqp.prog fun _=>false)) = true:=by kernel_rfl
theorem q14 (n:Nat):@qei (qt3 n) Try.prog sqp.prog (pM 6) qd2 = true:=by kernel_rfl
theorem q3t:(((36 :: lC).filter fun f=>!(f == qd2 || f == qoh)).all (@qei qmc Try.prog sqp.prog fun o=>pP o && !(o.op matches .send _ _))) = true:=by kernel_rfl
theorem q15:@qei qmc Try.prog sqp.prog pP qoh = true:=by kernel_rfl
theorem q17:((36 :: lC).all (@qei qmc sqp.prog sqp.prog (@u6 qmc))) = true:=by kernel_rfl
theorem q4e {n:Nat} {f:FuncId} (h:@Ent (qt3 n) f):f ∈ lM:=by
 rcases h with z | z
 ·exact List.contains_iff_mem.1 z
 ·cases z
theorem q18 {f:FuncId} (h:@Ent qmc f):f ∈ 36 :: lC:=by
 rcases h with z | z
 ·exact List.mem_cons_of_mem _ (List.contains_iff_mem.1 z)
 ·obtain rfl:f = 36:=List.mem_singleton.1 (List.contains_iff_mem.1 z)
  exact List.mem_cons_self
theorem q4q {f:FuncId} (h:@Ent qpq f):f ∈ lX:=by
 rcases h with z | z
 ·exact List.contains_iff_mem.1 (qks (by decide +kernel:(lA.all fun f=>lX.contains f) = true) (List.contains_iff_mem.1 z))
 ·obtain rfl:f = 36:=List.mem_singleton.1 (List.contains_iff_mem.1 z)
  decide +kernel
theorem q4r (n:Nat):@je (qt3 n) K sqp.prog Try.prog SpM:=@Cut.texts Try.prog sqp.prog 6 (qt3 n) K SpM [61] lM (fun _=>false) cut ext (fun f=>q4e) (fun f=>q3p) (fun f hf=>qks (by decide +kernel:(lM.all fun f=>kl.contains f) = true) hf) fnM (fun o h=>by cases h) (q3s n)
 (pM 6) (fun _=>false) (fun _=>⟨fun o=>q34,q14 n⟩) (fun h=>absurd h (by decide +kernel))
theorem q4s:@je qmc K sqp.prog Try.prog SpP:=@Cut.texts Try.prog sqp.prog 6 qmc K SpP [61] (36 :: lC) (fun o=>pP o && !(o.op matches .send _ _)) cut ext (fun f=>q18) (fun f=>q3p) (fun f hf=>qks (by decide +kernel:((36 :: lC).all fun f=>kl.contains f) = true) hf) fnC
 (fun o h=>by
  simp only [Bool.and_eq_true] at h
  exact q0m h.1 fun x y e=>by rw [e] at h;simp at h) q3t
 (fun _=>false) pP (fun h=>absurd h (by decide +kernel)) (fun _=>⟨fun o=>q2w,q15⟩)
theorem q4t:@je qmc K sqp.prog sqp.prog (@SpC qmc):=@Cut.qxx Try.prog sqp.prog 6 qmc K (@SpC qmc) [61] (36 :: lC) (@u6 qmc) cut ext (fun f=>q18) (fun f h=>Nat.lt_of_lt_of_le (q3p h) (by omega)) (fun f hf=>qks (by decide +kernel:((36 :: lC).all fun f=>kl.contains f) = true) hf)
 (fun f hf=>qvu (by decide +kernel:((36 :: lC).all fun f=>decide (f < nfn)) = true) hf) fnC (fun o h=>⟨rfl,h⟩) q17
theorem q4u:@je qpq KT sqp.prog sqp.prog (@SpA qpq sqp.prog):=@Cut.qxx Try.prog sqp.prog 6 qpq KT (@SpA qpq sqp.prog) [61] lX (fun o=>@qlk qpq sqp.prog o.op) cut ext (fun f=>q4q) (fun f=>q3q) (fun f hf=>qks (by decide +kernel:(lX.all fun f=>(103 :: kl).contains f) = true) hf)
 (fun f hf=>qvu (by decide +kernel:(lX.all fun f=>decide (f < nfn)) = true) hf) fnA (fun o h=>⟨rfl,h⟩) q3r
noncomputable def bO:Code:=sqp.qzx.body.getD .skip
noncomputable def c5:Code:=qg9 (qg9 (qg9 (qg9 bO)))
noncomputable def D:ji:=q2y c5 6 19 20 21
noncomputable def id5:Nat:=idC (qlh c5)
theorem q3u:bO = .seq (qlh bO) (.seq (qlh (qg9 bO)) (.seq (qlh (qg9 (qg9 bO))) (.seq (qlh (qg9 (qg9 (qg9 bO)))) (.seq (.region id5 D.ops5 false) D.C6)))):=by kernel_rfl
theorem n0:noG (qlh bO) = true:=by kernel_rfl
theorem n1:noG (qlh (qg9 bO)) = true:=by kernel_rfl
theorem n2:noG (qlh (qg9 (qg9 bO))) = true:=by kernel_rfl
theorem n3:noG (qlh (qg9 (qg9 (qg9 bO)))) = true:=by kernel_rfl
theorem spine:qm2 D (.region id5 D.ops5 false) bO:=by
 rw [q3u]
 exact .seq n0 (.seq n1 (.seq n2 (.seq n3 .here)))
theorem o6:D.ops6.all (fq D.tc) = true:=by kernel_rfl
theorem o7:D.ops7 = #[{ dst:=some D.tx,op:=.move (.tmp D.tc),type:=(opN D.ops7 0).type,pos:=(opN D.ops7 0).pos,after:=(opN D.ops7 0).after,guard:=none }]:=by kernel_rfl
theorem o8:D.ops8 = #[{ dst:=some D.tv,op:=.recv (q36 (opN D.ops8 0)) (.tmp D.tx) true,type:=(opN D.ops8 0).type,pos:=(opN D.ops8 0).pos,after:=(opN D.ops8 0).after,guard:=none },{ dst:=some D.tb,op:=.extract (.tmp D.tv) 1,type:=(opN D.ops8 1).type,pos:=(opN D.ops8 1).pos,after:=(opN D.ops8 1).after,guard:=none }]:=by kernel_rfl
theorem or:qjb D.tx D.R = true:=by kernel_rfl
theorem ok:D.Ok:=⟨o6,⟨_,_,_,o7⟩,⟨_,_,_,_,_,_,_,o8⟩,or,by decide +kernel,by decide +kernel⟩
theorem g1:(D.ops5.all fun o=>!isGo o || qt1 D.tc o) = true:=by kernel_rfl
theorem g2:qla D.ops5 (List.range D.ops5.size) = true:=by kernel_rfl
theorem g3:noG D.C6 = true:=by kernel_rfl
theorem goT:GoT D:=q20 g1 g2 g3
theorem q4v:((lM.filter fun f=>!(f == qd2)).all (q37 sqp.prog)) = true:=by kernel_rfl
theorem q3v:sqp.qzx.body = some bO:=by kernel_rfl
theorem txt (n:Nat):@qwt (qt3 n) D id5 sqp.prog:=@qwx (qt3 n) D id5 sqp.prog lM (fun f hf=>q4e (.inl hf)) q4v (fun F c hF hc=>by
 rw [show sqp.prog.funcs[qd2]? = some sqp.qzx from sqp.func16] at hF
 cases hF
 rw [q3v] at hc
 cases hc
 exact spine)
theorem q4w:(lC.all (q38 sqp.prog)) = true:=by kernel_rfl
theorem calm:@sq.Calm qmc sqp.prog:=@q0q qmc sqp.prog lC (fun f hf=>List.contains_iff_mem.1 hf) q4w
theorem q4x:(kl.all fun f=>(Try.prog.inits.idxOf? f).isNone) = true:=by kernel_rfl
theorem bS:Try.f36.body = some (Try.f36.body.getD .skip):=by kernel_rfl
theorem tS:qez (Try.f36.body.getD .skip) = true:=by kernel_rfl
theorem rS:Try.f36.results = #[]:=by kernel_rfl
theorem nS:(Try.f36.name == "runtime.NumGoroutine") = false:=by kernel_rfl
theorem iS:Try.f36.body.isNone = false:=by kernel_rfl
theorem env (n:Nat):@Env (qt3 n) X K sqp.prog Try.prog D id5 :=
 @Env.mk (qt3 n) X K sqp.prog Try.prog D id5 (q4r n) q4s q4t calm (txt n) goT ok (by decide +kernel) (by show kl.contains _ = true;decide +kernel) ⟨_,_,sqp.func36,bS,tS⟩ ⟨_,Try.func36,rS,iS,nS⟩
  (fun f hf=>by
   have:=List.all_eq_true.1 q4x f (List.contains_iff_mem.1 hf)
   simpa using this) ⟨_,sqp.func103,sqp.qet⟩
theorem sB:sqp.qzy.body = some (qmz 55 48 55):=by kernel_rfl
theorem gB:sqp.fGo.body = some (goC 43 44 43 77):=by kernel_rfl
noncomputable def uT (t:TypeId):TypeDesc:=(sqp.prog.underlying t).getD (.int .i64)
theorem q19:@qgu qpq sqp.prog 55 48 55 :=
 @qgu.mk qpq sqp.prog 55 48 55 ⟨_,sqp.func102,sB,by decide +kernel,sqp.qhu,by kernel_rfl,by kernel_rfl⟩ (by kernel_rfl) (by kernel_rfl)
  ⟨10,51,uT 55,by kernel_rfl,by kernel_rfl,by decide,by kernel_rfl,by kernel_rfl,by kernel_rfl⟩ (by kernel_rfl) (by kernel_rfl) (by kernel_rfl)
theorem q4y:@q0c qpq sqp.prog 43 44 43 77 :=
 @q0c.mk qpq sqp.prog 43 44 43 77 ⟨_,sqp.func103,gB,by decide +kernel,sqp.qet,by kernel_rfl,by kernel_rfl⟩ ⟨_,sqp.func36,iS,nS⟩ (by kernel_rfl) (by kernel_rfl)
  ⟨10,49,uT 43,by kernel_rfl,by kernel_rfl,by decide,by kernel_rfl,by kernel_rfl,by kernel_rfl⟩ (by kernel_rfl) (by kernel_rfl) (by kernel_rfl) ⟨_,_,sqp.underlying77⟩ (by kernel_rfl) (fun d el h=>by
   rw [sqp.underlying77] at h
   cases h
   kernel_rfl)
end Go.Proofs.Ytcdclihinmdgiaa.sqo

namespace Go.Proofs.Ytcdclihinmdgiaa.sqw
open Go.ChangeShapes Go.WideShapes Go.ChangeAt Go.RowKit
open Go mem ints sf sq
set_option linter.unusedVariables false
set_option maxRecDepth 100000
theorem run {g:FuncId} (hg:(sqo.lM.contains g && sqo.lA.contains g) = true) {args args':Array Value} {W:World} {ws:Array Wn} (hw:q0v W ws) (ha:∀ C:Cal,@AR C (wnB ws) args args') (haA:∀ C:Cal,@AR C (wnB (wnS ws)) args args)
  (h:∀ τ,Calls sqp.prog g args (qj τ (wnW W ws)) fun e _=>e = .returned (.bool true)) (hx:ws.size = 0\/sqo.win = true:=by exact .inr rfl) :
  ∃ M last o w' t',runNT Try.prog (M + 1) (Conc.solo (Conc.G (Frame.enter Try.prog g args' .normal) []) W) #[] = (.ended o w',t')/\runN Try.prog M (Conc.solo (Conc.G (Frame.enter Try.prog g args' .normal) []) W) = .next last/\step Try.prog last = .ended o w' ∧
   Conc.Good Try.prog (fun v W'=>v = .bool true/\Below W.heap.size W W') last o w' t':=by
 simp only [Bool.and_eq_true] at hg
 exact @sound (sqo.qt3 W.heap.size) sqo.X sqo.K sqo.KT sqp.prog Try.prog sqo.D sqo.id5 _ _ _ _ _ _ _ (sqo.env W.heap.size) sqo.q4u sqo.q19 sqo.q4y (by show List.contains _ _ = true;decide +kernel) (by decide +kernel) g args args' W ws hg.1 hg.2 hw (ha _) (haA _) rfl (hx.imp id fun z=>⟨z,z⟩) h
end Go.Proofs.Ytcdclihinmdgiaa.sqw

namespace Go.Proofs.Ytcdclihinmdgiaa.pm
open arr
set_option linter.unusedVariables false
set_option maxRecDepth 100000
def qvb (xs:List Int) (k:Nat):Prop:=∀ i,i < k->0<=xs.getD i 0/\xs.getD i 0 < xs.length/\∀ j,j < i->xs.getD j 0 ≠ xs.getD i 0
instance (xs:List Int) (k:Nat):Decidable (qvb xs k):=by unfold qvb;exact inferInstance
def okB (xs:List Int):Bool:=decide (xs.length<=24/\qvb xs xs.length)
structure Ok (xs:List Int):Prop where
 len:xs.length<=24
 lo:∀ i,i < xs.length->0<=xs.getD i 0
 hi:∀ i,i < xs.length->xs.getD i 0 < xs.length
 inj:∀ i j,i < xs.length->j < xs.length->xs.getD i 0 = xs.getD j 0->i = j
theorem Ok.of (xs:List Int) (h:okB xs = true):Ok xs:=by
 unfold okB at h
 rw [decide_eq_true_iff] at h
 refine ⟨h.1,fun i hi=>(h.2 i hi).1,fun i hi=>(h.2 i hi).2.1,fun i j hi hj e=>?_⟩
 rcases Nat.lt_trichotomy i j with hl | hl | hl
 ·exact absurd e ((h.2 j hj).2.2 i hl)
 ·exact hl
 ·exact absurd e.symm ((h.2 i hi).2.2 j hl)
theorem Ok.b {xs:List Int} (h:Ok xs):okB xs = true:=by
 unfold okB
 rw [decide_eq_true_iff]
 exact ⟨h.len,fun i hi=>⟨h.lo i hi,h.hi i hi,fun j hj e=>by have:=h.inj j i (by omega) hi e;omega⟩⟩
theorem qn1 {xs:List Int} (h:24 < xs.length):okB xs = false:=by
 unfold okB;rw [decide_eq_false_iff_not];intro e;omega
theorem qr9 {xs:List Int} {k:Nat} (hk:k < xs.length) (h:xs.getD k 0 < 0\/xs.length<=xs.getD k 0):okB xs = false:=by
 unfold okB;rw [decide_eq_false_iff_not];intro e
 have:=e.2 k hk
 omega
theorem qsa {xs:List Int} {k:Nat} (hk:k < xs.length) (h:xs.getD k 0 ∈ xs.take k):okB xs = false:=by
 unfold okB;rw [decide_eq_false_iff_not];intro e
 obtain ⟨j,hj,he⟩:=List.getElem_of_mem h
 simp at hj
 refine (e.2 k hk).2.2 j (by omega) ?_
 rw [<-he]
 simp [List.getD,List.getElem?_eq_getElem (show j < xs.length by omega)]
theorem qsb {xs:List Int} (h:xs.length<=24) (h2:qvb xs xs.length):okB xs = true:=by
 unfold okB;rw [decide_eq_true_iff];exact ⟨h,h2⟩
theorem qvb.step {xs:List Int} {k:Nat} (h:qvb xs k) (hk:k < xs.length) (h1:0<=xs.getD k 0) (h2:xs.getD k 0 < xs.length) (h3:¬ xs.getD k 0 ∈ xs.take k):qvb xs (k + 1):=by
 intro i hi
 by_cases e:i = k
 ·subst e
  refine ⟨h1,h2,fun j hj he=>h3 ?_⟩
  rw [<-he]
  have hl:j < xs.length:=by omega
  have:xs.getD j 0 = (xs.take i)[j]'(by simp;omega):=by simp [List.getD,List.getElem?_eq_getElem hl]
  rw [this]
  exact List.getElem_mem _
 ·exact h i (by omega)
def qvc (f:Nat->Bool):List Bool:=(List.range 24).map f
theorem qis (f:Nat->Bool):(qvc f).length = 24:=by simp [qvc]
theorem ql5 (f:Nat->Bool) {k:Nat} (h:k < 24):(qvc f)[k]? = some (f k):=by simp [qvc,h]
theorem qn2 (f f':Nat->Bool) {k:Nat} (h:∀ j,j < 24->f' j = if j = k then true else f j):(qvc f).set k true = qvc f':=by
 refine List.ext_getElem? fun i=>?_
 by_cases hi:i < 24
 ·rw [ql5 _ hi,List.getElem?_set,h i hi]
  by_cases e:k = i
  ·subst e;simp [qis,hi]
  ·rw [if_neg e,ql5 _ hi,if_neg (by omega)]
 ·rw [List.getElem?_eq_none (by simp [qis];omega),List.getElem?_eq_none (by simp [qis];omega)]
def flags (xs:List Int) (k:Nat):List Bool:=qvc fun j=>decide ((j:Int) ∈ xs.take k)
theorem qpg {xs:List Int} {k z:Nat} (hk:k < xs.length) (hz:xs.getD k 0 = (z:Int)):(flags xs k).set z true = flags xs (k + 1):=by
 refine qn2 _ _ fun j hj=>?_
 have e:xs.take (k + 1) = xs.take k ++ [(z:Int)]:=by
  rw [List.take_succ_eq_append_getElem hk,<-hz];simp [List.getD,List.getElem?_eq_getElem hk]
 rw [e]
 by_cases hjz:j = z
 ·subst hjz;simp
 ·have:¬ ((j:Int) = (z:Int)):=by omega
  simp [hjz,this]
def qhc (xs:List Int) (k:Nat):List Int:=tab fun i=>if i < k then xs.getD i 0 else (i:Int)
theorem qph (xs:List Int):qhc xs 0 = idl:=by simp [qhc,idl]
theorem qpi (xs:List Int) (k:Nat):(qhc xs k).set k (xs.getD k 0) = qhc xs (k + 1):=by
 have h:=qlm (fun i=>if i < k then xs.getD i 0 else (i:Int)) (fun i=>if i < k + 1 then xs.getD i 0 else (i:Int)) (k:=k) (fun j hj=>by
  by_cases e:j = k
  ·subst e;simp
  ·simp only [if_neg e];split <;> split <;> first | rfl | omega)
 simpa [qhc] using h
def ext (xs:List Int):List Int:=qhc xs xs.length
def pv (xs:List Int):List Int:=if okB xs then ext xs else zeros
theorem zf:zeros.length = 24:=by simp [zeros]
theorem qc (xs:List Int):(ext xs).length = 24:=jy _
theorem qe5 (xs:List Int):(pv xs).length = 24:=by unfold pv;split;exact qc _;exact zf
theorem j5 {xs:List Int} {i:Nat} (h:i < 24):(ext xs).getD i 0 = if i < xs.length then xs.getD i 0 else (i:Int):=by
 unfold ext qhc;rw [qdm _ h]
end Go.Proofs.Ytcdclihinmdgiaa.pm

namespace Go.Proofs.Ytcdclihinmdgiaa.permOk
open Go.ChangeShapes Go.WideShapes Go.ChangeAt Go.RowKit
open mem ints arr pm
set_option linter.unusedVariables false
set_option maxRecDepth 100000
theorem qn0 (x a b:Int) (w:World) (h1:a<=x) (h2:x<=b) :
  Calls sqp.prog 9 #[.int .i64 x,.int .i64 a,.int .i64 b] w fun e w'=>e = .returned (.bool true)/\w = w':=by
 go_enter sqp.func9,sqp.ntmps9
 go_wp2
 go_ret
 exact ⟨rfl,rfl⟩
theorem qzg (x a b:Int) (w:World) (h:x < a\/b < x) :
  Calls sqp.prog 9 #[.int .i64 x,.int .i64 a,.int .i64 b] w fun e w'=>e = .returned (.bool false)/\w = w':=by
 by_cases h1:x < a
 ·clear h
  have hd:decide (a<=x) = false:=by simp;omega
  go_enter sqp.func9,sqp.ntmps9
  go_wp2
  go_ret
  exact ⟨rfl,rfl⟩
 ·have h2:b < x:=by omega
  have hd:decide (x<=b) = false:=by simp;omega
  clear h
  go_enter sqp.func9,sqp.ntmps9
  go_wp2
  go_ret
  exact ⟨rfl,rfl⟩
def hasB (xs:List Int) (z:Int):Bool:=decide (z ∈ xs)
theorem qzh {xs:List Int} {k:Nat} {z s:Int} (h:¬ z ∈ xs.take k) (hk:xs[k]? = some s) (hs:¬ s = z):¬ z ∈ xs.take (k + 1):=by
 rw [List.take_add_one,hk]
 simp
 exact ⟨h,fun e=>hs e.symm⟩
set_option maxHeartbeats 400000 in
theorem qer (A:Option Addr) (n c:Nat) (xs:List Int) (hi:Nat) (z:Int) (w:World) (hx:Rd w hi A n (V xs)) (hn:n<=1048576) :
  Calls sqp.prog 44 #[.slice A n c,.int .i64 z] w fun e w'=>e = .returned (.bool (hasB xs z))/\w = w':=by
 have lx:xs.length = n:=by simpa [V] using hx.1
 have LX:=Lib.hid lx;clear lx
 have HX:=Lib.hid hx;clear hx
 go_enter sqp.func44,sqp.ntmps44
 go_wp2
 go_loop [9] (fun i=>∃ k:Nat,k<=n/\i = .int .i64 k/\Hid (¬ z ∈ xs.take k)) (fun i=>n - (intOf i).toNat)
 case atStart=>exact ⟨0,Nat.zero_le _,rfl,Lib.hid (by simp)⟩
 case round =>
  obtain ⟨k,hk,rfl,HN⟩:=hrel
  by_cases hlt:k < n
  ·obtain ⟨g,off,u,rfl,_,hxu,hcx⟩:=HX.out.at_ hlt
   obtain ⟨s,hxs,rfl⟩:=qhb hxu
   have HS:=Lib.hid hxs;clear hxs hxu
   by_cases hst:s = z
   ·subst hst
    go_wp2
    go_ret
    refine ⟨qx ?_,rfl⟩
    unfold hasB;rw [eq_comm,decide_eq_true_iff];exact List.mem_of_getElem? HS.out
   ·have hb:(s == z) = false:=by simpa using hst
    have HST:=Lib.hid hst;clear hst
    go_wp2
    go_round
    case rel=>exact ⟨k + 1,by omega,by go_num,Lib.hid (qzh HN.out HS.out HST.out)⟩
    case measure=>simp [intOf];omega
  ·obtain rfl:k = n:=by omega
   go_wp2
   go_ret
   refine ⟨qx ?_,rfl⟩
   unfold hasB;rw [eq_comm,decide_eq_false_iff_not]
   have:=HN.out
   rw [List.take_of_length_le (by rw [LX.out];exact Nat.le_refl _)] at this
   exact this
theorem Rd.take {w:World} {hi n k:Nat} {A:Option Addr} {xs:List Int} (h:Rd w hi A n (V xs)) (hk:k<=n):Rd w hi A k (V (xs.take k)):=by
 have hl:xs.length = n:=by simpa [V] using h.1
 refine ⟨by simp [V];omega,h.2.1,fun h0=>?_⟩
 obtain ⟨g,off,e,hlt,hc⟩:=h.2.2 (by omega)
 refine ⟨g,off,e,hlt,fun j hj=>?_⟩
 rw [hc j (by omega)]
 simp [V,hj]
theorem qes {xs:List Int} {k:Nat} {s:Int} (h:xs[k]? = some s):xs.getD k 0 = s:=by simp [List.getD,h]
set_option maxHeartbeats 800000 in
theorem uh (A:Option Addr) (n c:Nat) (xs:List Int) (hi:Nat) (w:World) (hx:Rd w hi A n (V xs)) (hn:n<=1048576) (hc:n<=c) :
  Calls sqp.prog 64 #[.slice A n c] w fun e w'=>e = .returned (.bool (okB xs))/\w = w':=by
 have lx:xs.length = n:=by simpa [V] using hx.1
 have LX:=Lib.hid lx;clear lx
 have HX:=Lib.hid hx;clear hx
 by_cases h24:24 < n
 ·have e:=Lib.hid (qn1 (xs:=xs) (by rw [LX.out];exact h24))
  go_enter sqp.func64,sqp.ntmps64
  go_wp2
  go_ret
  exact ⟨qx e.out.symm,rfl⟩
 go_enter sqp.func64,sqp.ntmps64
 go_wp2
 go_loop [10] (fun i=>∃ k:Nat,k<=n/\i = .int .i64 k/\Hid (qvb xs k)) (fun i=>n - (intOf i).toNat)
 case atStart=>exact ⟨0,Nat.zero_le _,rfl,Lib.hid (fun i hi=>by omega)⟩
 case round =>
  obtain ⟨k,hk,rfl,HO⟩:=hrel
  by_cases hlt:k < n
  ·obtain ⟨g,off,u,rfl,_,hxu,hcx⟩:=HX.out.at_ hlt
   obtain ⟨s,hxs,rfl⟩:=qhb hxu
   have HG:=Lib.hid (qes hxs)
   clear hxs hxu
   by_cases hin:0<=s/\s<=(n:Int) - 1
   ·obtain ⟨i1,i2⟩:=hin
    by_cases hh:hasB (xs.take k) s = true
    ·have HF:Hid (okB xs = false):=Lib.hid (qsa (by rw [LX.out];exact hlt) (by rw [HG.out];simpa [hasB] using hh))
     have HH:=Lib.hid hh;clear hh
     go_wp2_with (go_at_call 9;refine (qn0 _ _ _ _ i1 i2).mono ?_;rintro e w' ⟨rfl,rfl⟩)
     refine (qer _ k _ (xs.take k) _ s _ (Rd.take HX.out (by omega)) (by omega)).mono ?_
     rintro e w' ⟨rfl,rfl⟩
     rw [HH.out]
     go_wp2
     go_ret
     exact ⟨qx HF.out.symm,rfl⟩
    ·have hh':hasB (xs.take k) s = false:=by simpa using hh
     have HH:=Lib.hid hh';clear hh hh'
     go_wp2_with (go_at_call 9;refine (qn0 _ _ _ _ i1 i2).mono ?_;rintro e w' ⟨rfl,rfl⟩)
     refine (qer _ k _ (xs.take k) _ s _ (Rd.take HX.out (by omega)) (by omega)).mono ?_
     rintro e w' ⟨rfl,rfl⟩
     rw [HH.out]
     go_wp2
     go_round
     case rel=>exact ⟨k + 1,by omega,by go_num,Lib.hid (HO.out.step (by rw [LX.out];exact hlt) (by rw [HG.out];exact i1) (by rw [HG.out,LX.out];omega) (by rw [HG.out];simpa [hasB] using HH.out))⟩
     case measure=>simp [intOf];omega
   ·have hno:s < 0\/(n:Int) - 1 < s:=by omega
    have HF:Hid (okB xs = false):=Lib.hid (qr9 (k:=k) (by rw [LX.out];exact hlt) (by rw [HG.out,LX.out];omega))
    clear hin
    go_wp2_with (go_at_call 9;refine (qzg _ _ _ _ hno).mono ?_;rintro e w' ⟨rfl,rfl⟩)
    go_ret
    exact ⟨qx HF.out.symm,rfl⟩
  ·obtain rfl:k = n:=by omega
   go_wp2
   go_ret
   exact ⟨qx (qsb (by rw [LX.out];omega) (by rw [LX.out];exact HO.out)).symm,rfl⟩
end Go.Proofs.Ytcdclihinmdgiaa.permOk

namespace Go.Proofs.Ytcdclihinmdgiaa.permOf
open Go.ChangeShapes Go.WideShapes Go.ChangeAt Go.RowKit
open mem ints arr pm permOk
set_option linter.unusedVariables false
set_option maxRecDepth 100000
theorem results_cell_tmp {P:Program} {fn:Func} {p q:Tmp} {ty:TypeId} (h:fn.results = #[.cell p ty,.tmp q]) (tmps:Array Value) (w:World) (g:Nat) (t:TypeId) (cs:Array Value) (fr:Nat × Nat) (d:TypeDesc) (v:Value)
  (hp:tmps.getD p undef = .pointer (some ⟨g,0,none⟩)) (hq:tmps.getD q undef = v) (hg:w.heap[g]? = some (.cells cs t fr))
  (hu:P.underlying ty = some d) (hd:(match d with | .struct _ | .array _ _=>true | _=>false) = true) (hi:(P.info? ty).map (·.size) = some cs.size) :
  (results fn tmps).run P w = .ok (.tuple #[.agg cs,v]) w:=by
 have hp':tmps[p]?.getD undef = .pointer (some ⟨g,0,none⟩):=by simpa using hp
 have hq':tmps[q]?.getD undef = v:=by simpa using hq
 simp [results,h,hp',hq',asAddr,run_loadVar_row w g t ty cs fr d hg hu hd hi]
theorem jl {P:Program} {fn:Func} {p p2 q:Tmp} {ty:TypeId} (h:fn.results = #[.cell p ty,.cell p2 ty,.tmp q]) (tmps:Array Value) (w:World) (g g2:Nat) (t:TypeId) (cs cs2:Array Value) (fr:Nat × Nat) (d:TypeDesc) (v:Value)
  (hp:tmps.getD p undef = .pointer (some ⟨g,0,none⟩)) (hp2:tmps.getD p2 undef = .pointer (some ⟨g2,0,none⟩)) (hq:tmps.getD q undef = v) (hg:w.heap[g]? = some (.cells cs t fr)) (hg2:w.heap[g2]? = some (.cells cs2 t fr))
  (hu:P.underlying ty = some d) (hd:(match d with | .struct _ | .array _ _=>true | _=>false) = true) (hi:(P.info? ty).map (·.size) = some cs.size) (hi2:(P.info? ty).map (·.size) = some cs2.size) :
  (results fn tmps).run P w = .ok (.tuple #[.agg cs,.agg cs2,v]) w:=by
 have hp':tmps[p]?.getD undef = .pointer (some ⟨g,0,none⟩):=by simpa using hp
 have hp2':tmps[p2]?.getD undef = .pointer (some ⟨g2,0,none⟩):=by simpa using hp2
 have hq':tmps[q]?.getD undef = v:=by simpa using hq
 simp [results,h,hp',hp2',hq',asAddr,run_loadVar_row w g t ty cs fr d hg hu hd hi,run_loadVar_row w g2 t ty cs2 fr d hg2 hu hd hi2]
def VB (l:List Bool):List Value:=l.map Value.bool
theorem qnz (l:List Bool) (k:Nat) (b:Bool):(VB l).set k (.bool b) = VB (l.set k b):=by simp [VB,List.map_set]
theorem qat {w:World} {g:Nat} {f:Nat->Bool} {t:TypeId} (h:Arr w g (VB (qvc f)) t) {k:Nat} (hk:k < 24) {b:Bool} (hb:f k = b):w.cell? ⟨g,k,none⟩ = some (.bool b) :=
 h.cell (by simp [VB,ql5 f hk,hb])
def q4p (xs:List Int) (R G:Nat) (w wr:World) (k:Nat):Prop :=
 Arr wr R (V zeros) 41/\Arr wr G (V (qhc xs k)) 41/\Arr wr (G + 1) (VB (flags xs k)) 91/\Below w.heap.size w wr/\qvb xs k
def qip (xs:List Int) (w:World) (e:Ending) (w':World):Prop:=e = .returned (.tuple #[.agg (V (pv xs)).toArray,.bool (okB xs)])/\Below w.heap.size w w'
theorem qiq {xs:List Int} {w w':World} (h:okB xs = false) (hb:Below w.heap.size w w'):qip xs w (.returned (.tuple #[.agg (V zeros).toArray,.bool false])) w':=by
 refine ⟨?_,hb⟩
 unfold pv
 simp [h]
theorem qva {xs:List Int} {w w':World} (h:okB xs = true) (hb:Below w.heap.size w w'):qip xs w (.returned (.tuple #[.agg (V (ext xs)).toArray,.bool true])) w':=by
 refine ⟨?_,hb⟩
 unfold pv
 simp [h]
theorem qpf (xs:List Int):flags xs 0 = List.replicate 24 false:=by
 simp only [flags,List.take_zero,List.not_mem_nil,decide_false];decide
set_option maxHeartbeats 1000000 in
theorem qhr (A:Option Addr) (n c:Nat) (xs:List Int) (hi:Nat) (w:World) (hx:Rd w hi A n (V xs)) (hn:n<=1048576) :
  Calls sqp.prog 73 #[.slice A n c] w (qip xs w):=by
 have lx:xs.length = n:=by simpa [V] using hx.1
 have LX:=Lib.hid lx;clear lx
 have HX:=Lib.hid hx;clear hx
 by_cases h24:24 < n
 ·have E:=Lib.hid (qn1 (xs:=xs) (by rw [LX.out];exact h24))
  have N:=Lib.hid (Arr.new w (V zeros) 41 rfl)
  go_enter sqp.func73,sqp.ntmps73
  go_wp2_with (refine wpList_store_row rfl 41 _ _ rfl w.heap.size (V zeros).toArray rfl rfl 41 (V zeros).toArray N.out (qo zf) rfl (zy _) ?_)
  exact bodyPost_ret (v:=.tuple #[.agg (V zeros).toArray,.bool false]) (results_cell_tmp rfl _ _ w.heap.size 41 (V zeros).toArray (0,0) _ _ rfl rfl N.out.row sqp.underlying41 rfl (qo zf)) rfl (qiq E.out (below_setRow ((Below.refl _ _).alloc (Nat.le_refl _) _) (Nat.le_refl _) _))
 have N:=Lib.hid (Arr.new w (V zeros) 41 rfl)
 go_enter sqp.func73,sqp.ntmps73
 go_wp2_with fail
 refine (qdn _).mono ?_
 rintro e w1 ⟨rfl,b1⟩
 have hs1:w.heap.size + 1<=w1.heap.size:=by have:=b1.size;simpa using this
 have A1:=Lib.hid (N.out.keep b1 (by simp))
 have B1:Hid (Below w.heap.size w w1):=Lib.hid (((Below.refl _ _).alloc (Nat.le_refl _) _).trans (b1.mono (by simp)))
 clear b1
 go_wp2_with (refine wpList_store_row rfl 41 _ _ rfl w1.heap.size (V idl).toArray rfl rfl 41 (V zeros).toArray (Arr.new w1 (V zeros) _ rfl) (qo (jy _)) rfl (zy _) ?_)
 go_loopw [15] (fun i wr=>∃ k:Nat,k<=n/\i = .int .i64 k/\q4p xs w.heap.size w1.heap.size w wr k) (fun i _=>n - (intOf i).toNat)
 case atStart =>
  refine ⟨0,Nat.zero_le _,rfl,((A1.out.alloc _).qh (by omega)).alloc _,?_,?_,(below_setRow (B1.out.alloc B1.out.size _) (by omega) _).alloc (by simp;omega) _,fun i hi=>by omega⟩
  ·rw [qph]
   exact (Arr.new w1 (V zeros) _ rfl).row.alloc _
  ·rw [qpf]
   exact Arr.new _ (VB (List.replicate 24 false)) _ (by simp)
 case round =>
  obtain ⟨k,hk,rfl,hp⟩:=hrel
  have HP:=Lib.hid hp;clear hp
  by_cases hlt:k < n
  ·obtain ⟨g,off,u,rfl,hgl,hxu,hcx⟩:=HX.out.at_ hlt
   obtain ⟨s,hxs,rfl⟩:=qhb hxu
   have HG:=Lib.hid (qes hxs)
   clear hxs hxu
   have hgw:g < w.heap.size:=Nat.lt_of_lt_of_le hgl HX.out.2.1
   rw [<-HP.out.2.2.2.1.cell (p:=⟨g,off + k,none⟩) hgw] at hcx
   clear hgl hgw
   have arm:=HP.out.1
   have ARM:=Lib.hid arm;clear arm
   by_cases hbad:s < 0\/(n:Int)<=s
   ·have HF:Hid (okB xs = false):=Lib.hid (qr9 (k:=k) (by rw [LX.out];exact hlt) (by rw [HG.out,LX.out];omega))
    by_cases hneg:s < 0
    ·clear hbad
     go_wp2_with (refine wpList_store_row rfl 41 _ _ rfl w.heap.size (V zeros).toArray rfl rfl 41 (V zeros).toArray ARM.out (qo zf) rfl (zy _) ?_)
     exact bodyPost_ret (v:=.tuple #[.agg (V zeros).toArray,.bool false]) (results_cell_tmp rfl _ _ w.heap.size 41 (V zeros).toArray (0,0) _ _ rfl rfl ARM.out.row sqp.underlying41 rfl (qo zf)) rfl (qiq HF.out (below_setRow HP.out.2.2.2.1 (Nat.le_refl _) _))
    ·have hge:(n:Int)<=s:=by omega
     have hd:decide (s < 0) = false:=by simp;omega
     clear hbad
     go_wp2_with (refine wpList_store_row rfl 41 _ _ rfl w.heap.size (V zeros).toArray rfl rfl 41 (V zeros).toArray ARM.out (qo zf) rfl (zy _) ?_)
     exact bodyPost_ret (v:=.tuple #[.agg (V zeros).toArray,.bool false]) (results_cell_tmp rfl _ _ w.heap.size 41 (V zeros).toArray (0,0) _ _ rfl rfl ARM.out.row sqp.underlying41 rfl (qo zf)) rfl (qiq HF.out (below_setRow HP.out.2.2.2.1 (Nat.le_refl _) _))
   ·have i1:0<=s:=by omega
    have i2:s < n:=by omega
    clear hbad
    obtain ⟨z,rfl⟩:=Int.eq_ofNat_of_zero_le i1
    have hz:z < n:=by omega
    have hz24:z < 24:=by omega
    clear i1 i2
    by_cases hin:(z:Int) ∈ xs.take k
    ·have HF:Hid (okB xs = false):=Lib.hid (qsa (k:=k) (by rw [LX.out];exact hlt) (by rw [HG.out];exact hin))
     have hfl:wr.cell? ⟨w1.heap.size + 1,z,none⟩ = some (.bool true):=qat HP.out.2.2.1 hz24 (by simpa using hin)
     clear hin
     go_wp2_with (refine wpList_store_row rfl 41 _ _ rfl w.heap.size (V zeros).toArray rfl rfl 41 (V zeros).toArray ARM.out (qo zf) rfl (zy _) ?_)
     exact bodyPost_ret (v:=.tuple #[.agg (V zeros).toArray,.bool false]) (results_cell_tmp rfl _ _ w.heap.size 41 (V zeros).toArray (0,0) _ _ rfl rfl ARM.out.row sqp.underlying41 rfl (qo zf)) rfl (qiq HF.out (below_setRow HP.out.2.2.2.1 (Nat.le_refl _) _))
    ·have hfl:wr.cell? ⟨w1.heap.size + 1,z,none⟩ = some (.bool false):=qat HP.out.2.2.1 hz24 (by simpa using hin)
     have hff:=HP.out.2.2.1.frozen z
     have hc2:wr.cell? ⟨w1.heap.size,k,none⟩ = some (.int .i64 ((qhc xs k).getD k 0)):=HP.out.2.1.cell (bg (by rw [qhc,jy];omega))
     have hf2:=HP.out.2.1.frozen k
     have HIN:=Lib.hid hin;clear hin
     go_wp2
     go_roundw
     case rel =>
      refine ⟨k + 1,by omega,by go_num,(HP.out.1.other (by omega) _).other (by omega) _,?_,?_,(HP.out.2.2.2.1.setCell (by simp;omega) _).setCell (by simp;omega) _,HP.out.2.2.2.2.step (by rw [LX.out];exact hlt) (by rw [HG.out];omega) (by rw [HG.out,LX.out];omega) (by rw [HG.out];exact HIN.out)⟩
      ·have h:=(HP.out.2.1.other (k:=z) (g':=w1.heap.size + 1) (by omega) (.bool true)).qjo k (.int .i64 (z:Int))
       rw [qj7,<-HG.out,qpi] at h
       rw [<-HG.out]
       exact h
      ·have h:=HP.out.2.2.1.qjo z (.bool true)
       rw [qnz,qpg (by rw [LX.out];exact hlt) HG.out] at h
       exact h.other (by omega) _
     case measure=>simp [intOf];omega
  ·obtain rfl:k = n:=by omega
   have HY:Hid (okB xs = true):=Lib.hid (qsb (by rw [LX.out];omega) (by rw [LX.out];exact HP.out.2.2.2.2))
   have h2:=HP.out.2.1
   rw [<-LX.out] at h2
   have H2:Hid (Arr wr w1.heap.size (V (ext xs)) 41):=Lib.hid h2
   have H1:=Lib.hid HP.out.1;have HB:=Lib.hid HP.out.2.2.2.1
   clear h2 HP
   go_wp2_with (first | (refine wpList_load_row rfl 41 _ rfl w1.heap.size rfl 41 (V (ext xs)).toArray (0,0) _ H2.out sqp.underlying41 rfl (qo (qc _)) ?_) | (refine wpList_store_row rfl 41 _ _ rfl w.heap.size (V (ext xs)).toArray rfl rfl 41 (V zeros).toArray H1.out (qo (qc _)) (by simp [q8,qc,zeros]) (zy _) ?_))
   exact bodyPost_ret (v:=.tuple #[.agg (V (ext xs)).toArray,.bool true]) (results_cell_tmp rfl _ _ w.heap.size 41 (V (ext xs)).toArray (0,0) _ _ rfl rfl H1.out.row sqp.underlying41 rfl (qo (qc _))) rfl (qva HY.out (below_setRow HB.out (Nat.le_refl _) _))
end Go.Proofs.Ytcdclihinmdgiaa.permOf
