import Derived.Test.YtcdclihinmdgiaaZ04
import Derived.Test.YtcdclihinmdgiaaZ05
import Derived.Laws.CopyOwn
import Derived.RegionTactic
import Derived.BigRegion
namespace Go.Proofs.Ytcdclihinmdgiaa.inv
open Go.ChangeShapes Go.WideShapes Go.ChangeAt Go.RowKit
open mem ints arr pm permOk permOf
set_option linter.unusedVariables false
set_option maxRecDepth 100000
structure Sq (qs:List Int):Prop where
 len:qs.length = 24
 lo:∀ i,i < 24->0<=qs.getD i 0
 hi:∀ i,i < 24->qs.getD i 0 < 24
theorem Sq.at_ {qs:List Int} (h:Sq qs) {i:Nat} (hi:i < 24):∃ z:Nat,z < 24/\qs[i]? = some (z:Int)/\qs.getD i 0 = (z:Int):=by
 have h1:=h.lo i hi;have h2:=h.hi i hi
 have e:qs[i]? = some (qs.getD i 0):=by rw [List.getD,List.getElem?_eq_getElem (by rw [h.len];exact hi)];rfl
 exact ⟨(qs.getD i 0).toNat,by omega,by rw [e];congr 1;omega,by omega⟩
theorem qj8 (l:List Int) (k:Nat) (z:Int) (hk:k < 24) (hz:l[k]? = some z) (w:World) :
  (Instr.index 41 (.agg (V l).toArray) (.int .i64 (k:Int))).run sqp.prog w = .ok (.int .i64 z) w:=by
 have hs:(sizeOf 3).run sqp.prog w = .ok 1 w:=by kernel_rfl
 have h2:(V l)[k]? = some (.int .i64 z):=qpc hz
 simp [Instr.index,asIntOf,run_underlying sqp.underlying41,hk,hs,part,h2]
def x9 (n:Nat) (qs:List Int):Nat->List Int
 | 0=>List.replicate n 0
 | k + 1=>(x9 n qs k).set (qs.getD k 0).toNat (k:Int)
theorem uf (n:Nat) (qs:List Int) (k:Nat):(x9 n qs k).length = n:=by
 induction k with
 | zero=>simp [x9]
 | succ k ih=>simp [x9,ih]
def q1l (qs:List Int) (w wr:World) (k:Nat):Prop :=
 Arr wr (w.heap.size + 1) (V zeros) 41/\Arr wr (w.heap.size + 2) (V (x9 24 qs k)) 41/\Below w.heap.size w wr
set_option maxHeartbeats 1000000 in
theorem qbz (qs:List Int) (w:World) (hq:Sq qs) :
  Calls sqp.prog 76 #[.agg (V qs).toArray] w fun e w'=>e = .returned (.agg (V (x9 24 qs 24)).toArray)/\Below w.heap.size w w':=by
 have HQ:=Lib.hid hq;clear hq
 go_enter sqp.func76,sqp.ntmps76
 go_wp2_with (refine wpList_load_row rfl 41 _ rfl w.heap.size rfl 41 (V qs).toArray (0,0) _ (((Arr.new w (V qs) 41 rfl).alloc _).alloc _) sqp.underlying41 rfl (qo HQ.out.len) ?_)
 go_loopw [7] (fun i wr=>∃ k:Nat,k<=24/\i = .int .i64 k/\q1l qs w wr k) (fun i _=>24 - (intOf i).toNat)
 case atStart =>
  exact ⟨0,Nat.zero_le _,rfl,(Arr.new _ (V zeros) _ (by simp)).alloc _,Arr.new _ (V zeros) _ (by simp),(((Below.refl _ _).alloc (Nat.le_refl _) _).alloc (by simp) _).alloc (by simp;omega) _⟩
 case round =>
  obtain ⟨k,hk,rfl,hr⟩:=hrel
  have HR:=Lib.hid hr;clear hr
  by_cases hlt:k < 24
  ·obtain ⟨z,hz,hqz,hqd⟩:=HQ.out.at_ hlt
   have hvz:=qj8 qs k z hlt hqz
   have HD:=Lib.hid hqd;clear hqz hqd
   have hc:wr.cell? ⟨w.heap.size + 2,z,none⟩ = some (.int .i64 ((x9 24 qs k).getD z 0)):=HR.out.2.1.cell (bg (by rw [uf];exact hz))
   have hf:=HR.out.2.1.frozen z
   go_wp2
   go_roundw
   case rel =>
    refine ⟨k + 1,by omega,by go_num,HR.out.1.other (by omega) _,?_,HR.out.2.2.setCell (by simp;omega) _⟩
    have h:=HR.out.2.1.qjo z (.int .i64 (k:Int))
    rw [qj7] at h
    have e:x9 24 qs (k + 1) = (x9 24 qs k).set z (k:Int):=by rw [x9,HD.out];rfl
    rw [e]
    exact h
   case measure=>simp [intOf];omega
  ·obtain rfl:k = 24:=by omega
   have H1:=Lib.hid HR.out.1;have H2:=Lib.hid HR.out.2.1;have HB:=Lib.hid HR.out.2.2;clear HR
   have HL:=Lib.hid (uf 24 qs 24)
   generalize hr:x9 24 qs 24 = r at H2 HL
   have HRR:=Lib.hid hr;clear hr
   go_wp2_with (first | (refine wpList_load_row rfl 41 (.tmp 3) rfl (w.heap.size + 2) rfl 41 (V r).toArray (0,0) _ H2.out sqp.underlying41 rfl (qo HL.out) ?_) | (refine wpList_store_row rfl 41 (.tmp 2) (.tmp 15) rfl (w.heap.size + 1) (V r).toArray rfl rfl 41 (V zeros).toArray H1.out (qo HL.out) (by simp [q8,HL.out,zeros]) (zy _) ?_))
   exact bodyPost_ret (v:=.agg (V r).toArray) (results_cell_row rfl _ _ (w.heap.size + 1) 41 (V r).toArray (0,0) _ rfl H1.out.row sqp.underlying41 rfl (qo HL.out)) rfl ⟨by rw [HRR.out],arr.below_setRow HB.out (by omega) _⟩
def qbh (ps qs:List Int):List Int:=tab fun i=>qs.getD (ps.getD i 0).toNat 0
def qy0 (ps qs:List Int) (w wr:World) (k:Nat):Prop :=
 Arr wr (w.heap.size + 1) (V qs) 41/\Arr wr (w.heap.size + 2) (V zeros) 41/\Arr wr (w.heap.size + 3) (V (tab fun i=>if i < k then qs.getD (ps.getD i 0).toNat 0 else 0)) 41/\Below w.heap.size w wr
set_option maxHeartbeats 1000000 in
theorem qcx (ps qs:List Int) (w:World) (hp:Sq ps) (hq:Sq qs) :
  Calls sqp.prog 77 #[.agg (V ps).toArray,.agg (V qs).toArray] w fun e w'=>e = .returned (.agg (V (qbh ps qs)).toArray)/\Below w.heap.size w w':=by
 have HP:=Lib.hid hp;have HQ:=Lib.hid hq;clear hp hq
 go_enter sqp.func77,sqp.ntmps77
 go_wp2_with (refine wpList_load_row rfl 41 _ rfl w.heap.size rfl 41 (V ps).toArray (0,0) _ ((((Arr.new w (V ps) 41 rfl).alloc _).alloc _).alloc _) sqp.underlying41 rfl (qo HP.out.len) ?_)
 go_loopw [9] (fun i wr=>∃ k:Nat,k<=24/\i = .int .i64 k/\qy0 ps qs w wr k) (fun i _=>24 - (intOf i).toNat)
 case atStart =>
  exact ⟨0,Nat.zero_le _,rfl,((Arr.new _ (V qs) _ (by simp)).alloc _).alloc _,(Arr.new _ (V zeros) _ (by simp)).alloc _,Arr.new _ (V zeros) _ (by simp),((((Below.refl _ _).alloc (Nat.le_refl _) _).alloc (by simp) _).alloc (by simp;omega) _).alloc (by simp;omega) _⟩
 case round =>
  obtain ⟨k,hk,rfl,hr⟩:=hrel
  have HR:=Lib.hid hr;clear hr
  by_cases hlt:k < 24
  ·obtain ⟨z,hz,hqz,hqd⟩:=HP.out.at_ hlt
   have hvz:=qj8 ps k z hlt hqz
   have HD:=Lib.hid hqd;clear hqz hqd
   have hcq:wr.cell? ⟨w.heap.size + 1,z,none⟩ = some (.int .i64 (qs.getD z 0)):=HR.out.1.cell (bg (by rw [HQ.out.len];exact hz))
   have hc:wr.cell? ⟨w.heap.size + 3,k,none⟩ = some (.int .i64 ((tab fun i=>if i < k then qs.getD (ps.getD i 0).toNat 0 else 0).getD k 0)):=HR.out.2.2.1.cell (bg (by rw [jy];exact hlt))
   have hf:=HR.out.2.2.1.frozen k
   go_wp2
   go_roundw
   case rel =>
    refine ⟨k + 1,by omega,by go_num,HR.out.1.other (by omega) _,HR.out.2.1.other (by omega) _,?_,HR.out.2.2.2.setCell (by simp;omega) _⟩
    have h:=HR.out.2.2.1.qjo k (.int .i64 (qs.getD z 0))
    rw [qj7] at h
    have e:=qlm (fun i=>if i < k then qs.getD (ps.getD i 0).toNat 0 else 0) (fun i=>if i < k + 1 then qs.getD (ps.getD i 0).toNat 0 else 0) (k:=k) (fun j hj=>by
     by_cases e:j = k
     ·subst e;simp
     ·simp only [if_neg e];split <;> split <;> first | rfl | omega)
    simp only [Nat.lt_succ_self,if_true] at e
    rw [HD.out,Int.toNat_natCast] at e
    rw [e] at h
    exact h
   case measure=>simp [intOf];omega
  ·obtain rfl:k = 24:=by omega
   have er:(tab fun i=>if i < 24 then qs.getD (ps.getD i 0).toNat 0 else 0) = qbh ps qs:=by
    unfold qbh tab
    refine List.map_congr_left fun i hi=>?_
    simp at hi
    simp [hi]
   have H1:=Lib.hid HR.out.2.1;have h2:=HR.out.2.2.1;have HB:=Lib.hid HR.out.2.2.2;clear HR
   rw [er] at h2
   have H2:=Lib.hid h2;clear h2 er
   have HL:Hid ((qbh ps qs).length = 24):=Lib.hid (jy _)
   generalize hr:qbh ps qs = r at H2 HL
   have HRR:=Lib.hid hr;clear hr
   go_wp2_with (first | (refine wpList_load_row rfl 41 (.tmp 5) rfl (w.heap.size + 3) rfl 41 (V r).toArray (0,0) _ H2.out sqp.underlying41 rfl (qo HL.out) ?_) | (refine wpList_store_row rfl 41 (.tmp 4) (.tmp 19) rfl (w.heap.size + 2) (V r).toArray rfl rfl 41 (V zeros).toArray H1.out (qo HL.out) (by simp [q8,HL.out,zeros]) (zy _) ?_))
   exact bodyPost_ret (v:=.agg (V r).toArray) (results_cell_row rfl _ _ (w.heap.size + 2) 41 (V r).toArray (0,0) _ rfl H1.out.row sqp.underlying41 rfl (qo HL.out)) rfl ⟨by rw [HRR.out],arr.below_setRow HB.out (by omega) _⟩
theorem qrr (b n:Nat) (w:World) (hn:n<=24) :
  (Instr.sliceAt 41 (.pointer (some ⟨b,0,none⟩)) none (some (.int .i64 (n:Int))) none).run sqp.prog w = .ok (.slice (some ⟨b,0,none⟩) n 24) w:=by
 have h:=run_sliceAt_array_h (P:=sqp.prog) (t:=41) (w:=w) (a:=⟨b,0,none⟩) sqp.underlying41 .i64 (n:Int) (by omega) (by show (n:Int)<=24;omega)
 exact h.trans (by kernel_rfl)
set_option maxHeartbeats 1000000 in
theorem quv (qs:List Int) (n:Nat) (w:World) (hl:qs.length = 24) (hn:n<=24) :
  Calls sqp.prog 37 #[.agg (V qs).toArray,.int .i64 n] w fun e w'=>∃ v,e = .returned v/\w'.ownsRow w.heap.size 3 1 v (qs.take n).length (V (qs.take n))/\Below w.heap.size w w':=by
 obtain ⟨i0,hi0,hz0,hz1,hz2⟩:=info_parts qeo
 have HL:=Lib.hid hl;clear hl
 have HZ2:=Lib.hid hz2;clear hz2
 go_enter sqp.func37,sqp.ntmps37
 go_wp2_with (at_make;refine wpList_make_full _ rfl _ _ 30 rfl (w.heap.size + 1) 3 i0 _ 1 sqp.underlying30 hi0 hz0 hz1 _ _ _ _ n rfl rfl rfl rfl ?b2 ?b3 (by simp) ?_)
 case b2=>rw [HZ2.out];omega
 case b3=>unfold maxLen;omega
 intro w1 hown hg
 have hb1:Below (w.heap.size + 1) (w.alloc (.cells (V qs).toArray 41)) w1:=(Below.refl _ _).grown hg (by simp) (by simp)
 have hcu:∃ cur:Array Value,w1.heap[w.heap.size + 1]? = some (.cells cur 3 (0,0))/\cur.size = n:=by
  rcases hown.2 with ⟨hv,_⟩ | ⟨g,cap,cur,hv,_,hh,_,_,hsz,_⟩
  ·cases hv
  ·injection hv with e1 e2 e3
   injection e1 with e1
   injection e1 with e1
   subst e1;subst e3
   exact ⟨cur,hh,by simpa using hsz⟩
 obtain ⟨cur,hh,hsz⟩:=hcu
 have HH:=Lib.hid hh;have HSZ:=Lib.hid hsz;clear hh hsz hown hg
 have A1:=Lib.hid ((Arr.new w (V qs) 41 rfl).keep hb1 (by simp))
 have hs1:w.heap.size + 1<=w1.heap.size:=by have:=hb1.size;simpa using this
 have B1:Hid (Below w.heap.size w w1):=Lib.hid (((Below.refl _ _).alloc (Nat.le_refl _) _).trans (hb1.mono (by omega)))
 clear hb1
 have HT:Hid ((qs.take n).length = n):=Lib.hid (by simp [HL.out];omega)
 have hin:Hid (∀ j v,(V (qs.take n))[j]? = some v->w1.cell? ((⟨w.heap.size,0,none⟩:Addr).add j) = some v):=Lib.hid (by
  intro j v hv
  obtain ⟨z,hz,rfl⟩:=qhb hv
  have hj:j < n:=by
   rcases Nat.lt_or_ge j n with h | h
   ·exact h
   ·rw [List.getElem?_eq_none (by rw [HT.out];exact h)] at hz;cases hz
  have hadd:(⟨w.heap.size,0,none⟩:Addr).add j = ⟨w.heap.size,j,none⟩:=by unfold Addr.add;split <;> simp_all
  rw [hadd]
  refine A1.out.cell (qpc ?_)
  simpa [List.getElem?_take,hj] using hz)
 have hsl:=fun W=>qrr w.heap.size n W hn
 have hsz3:(sqp.prog.info? 3).map (·.size) = some 1:=by kernel_rfl
 go_wp2_with (refine wpList_copy_own rfl (.tmp 8) (.tmp 10) 30 30 rfl 3 sqp.underlying30 hsz3 (w.heap.size + 1) 0 n n ⟨w.heap.size,0,none⟩ n 24 rfl rfl cur 3 HH.out (V (qs.take n)) ?c1 hin.out ?c2 ?c3 ?_)
 case c1=>rw [q8,HT.out];exact (Nat.min_self n).symm
 case c2=>rw [q8,HT.out,HSZ.out];omega
 case c3=>intro v hv;unfold V at hv;rw [List.mem_map] at hv;obtain ⟨z,_,rfl⟩:=hv;rfl
 go_ret
 refine ⟨_,rfl,⟨by simp [q8],.inr ⟨w.heap.size + 1,n,_,?_,by omega,setRow_heap _ _ _ _ _ _ HH.out,?_,?_,?_,?_⟩⟩,arr.below_setRow B1.out (by omega) _⟩
 ·rw [HT.out];rfl
 ·rw [HT.out];exact Nat.le_refl _
 ·unfold maxLen;omega
 ·have h1:=HT.out;have h2:=HSZ.out
  simp [q8];omega
 ·have h1:=HT.out;have h2:=HSZ.out
  simp only [Nat.mul_one]
  rw [q8,h1,List.drop_of_length_le (by simp [h2]),List.append_nil,List.take_of_length_le (by rw [q8,h1];exact Nat.le_refl _)]
end Go.Proofs.Ytcdclihinmdgiaa.inv

namespace Go.Proofs.Ytcdclihinmdgiaa.permOf
open Go.ChangeShapes Go.WideShapes Go.ChangeAt Go.RowKit
open mem ints arr pm permOk
set_option linter.unusedVariables false
set_option maxRecDepth 100000
def qd3 (xs ys:List Int):Bool:=okB xs && okB ys && decide (xs.length = ys.length)
def qf8 (xs ys:List Int) (w:World) (e:Ending) (w':World):Prop :=
 e = .returned (.tuple #[.agg (V (if qd3 xs ys then ext xs else zeros)).toArray,.agg (V (if qd3 xs ys then ext ys else zeros)).toArray,.bool (qd3 xs ys)])/\Below w.heap.size w w'
theorem qir {xs ys:List Int} {w w':World} (h:qd3 xs ys = false) (hb:Below w.heap.size w w'):qf8 xs ys w (.returned (.tuple #[.agg (V zeros).toArray,.agg (V zeros).toArray,.bool false])) w':=by
 refine ⟨?_,hb⟩
 simp [h]
theorem qf9 {xs ys:List Int} {w w':World} (h:qd3 xs ys = true) (hb:Below w.heap.size w w'):qf8 xs ys w (.returned (.tuple #[.agg (V (ext xs)).toArray,.agg (V (ext ys)).toArray,.bool true])) w':=by
 refine ⟨?_,hb⟩
 simp [h]
theorem mo {P:Program} {ops:Array Oper} {o:Oper} {a:Act} {w:World} {K:Act->World->Prop} {Q:Exit->Act->World->Prop} {E:Prop} (hgd:o.guard = none) (ty:TypeId) (x:Operand) (ho:o.op = .load ty x)
  (g:Nat) (hx:a.eval x = .pointer (some ⟨g,0,none⟩)) (t:TypeId) (cs:Array Value) (fr:Nat × Nat) (d:TypeDesc) (hg:w.heap[g]? = some (.cells cs t fr))
  (hu:P.underlying ty = some d) (hd:(match d with | .struct _ | .array _ _=>true | _=>false) = true) (hi:(P.info? ty).map (·.size) = some cs.size)
  (h:K (a.put o.dst (.agg cs)) w):if Region.wanted o (yielded ops a.tmps) = true then Oper.wp P o a w K Q else E:=by
 have hw:Region.wanted o (yielded ops a.tmps) = true:=by simp [Region.wanted,hgd]
 rw [if_pos hw]
 exact wp_load_row ty x ho g hx t cs fr d hg hu hd hi h
theorem ql {P:Program} {ops:Array Oper} {o:Oper} {a:Act} {w:World} {K:Act->World->Prop} {Q:Exit->Act->World->Prop} {E:Prop} (hgd:o.guard = none) (ty:TypeId) (x y:Operand) (ho:o.op = .store ty x y)
  (g:Nat) (cells:Array Value) (hx:a.eval x = .pointer (some ⟨g,0,none⟩)) (hy:a.eval y = .agg cells)
  (t:TypeId) (old:Array Value) (hg:w.heap[g]? = some (.cells old t (0,0))) (hi:(P.info? ty).map (·.size) = some cells.size)
  (hold:old.size = cells.size) (h1:cells.all (·.oneCell') = true)
  (h:K (a.put o.dst undef) (w.setRow g cells)):if Region.wanted o (yielded ops a.tmps) = true then Oper.wp P o a w K Q else E:=by
 have hw:Region.wanted o (yielded ops a.tmps) = true:=by simp [Region.wanted,hgd]
 rw [if_pos hw]
 exact wp_store_row ty x y ho g cells hx hy t old hg hi hold h1 h
theorem qds {P:Program} {ops:Array Oper} {o:Oper} {a:Act} {w:World} {K:Act->World->Prop} {Q:Exit->Act->World->Prop} {E:Prop} (hgd:o.guard = none) (x:Operand) (ho:o.op = .assign x)
  (h:K (a.put o.dst (a.eval x)) w):if Region.wanted o (yielded ops a.tmps) = true then Oper.wp P o a w K Q else E:=by
 have hw:Region.wanted o (yielded ops a.tmps) = true:=by simp [Region.wanted,hgd]
 rw [if_pos hw]
 unfold Oper.wp execOp
 simp only [ho,Sem.run_pure]
 exact h
theorem ql4 {B:Nat} {a w:World} (h:Below B a w):Below B a { w with drawn:=w.drawn + 1 }:=⟨h.os,h.tape,h.output,h.size,h.block⟩
set_option maxHeartbeats 2000000 in
theorem qay (A:Option Addr) (n c:Nat) (B:Option Addr) (m d:Nat) (xs ys:List Int) (h1 h2:Nat) (w:World) (hx:Rd w h1 A n (V xs)) (hy:Rd w h2 B m (V ys)) (hn:n<=1048576) (hm:m<=1048576) (hh1:h1<=w.heap.size) (hh2:h2<=w.heap.size) :
  Calls sqp.prog 58 #[.slice A n c,.slice B m d] w (qf8 xs ys w):=by
 have lx:xs.length = n:=by simpa [V] using hx.1
 have ly:ys.length = m:=by simpa [V] using hy.1
 have LX:=Lib.hid lx;have LY:=Lib.hid ly;clear lx ly
 have HX:=Lib.hid hx;have HY:=Lib.hid hy;clear hx hy
 have N0:=Lib.hid ((Arr.new w (V zeros) 41 rfl).alloc (.cells (V zeros).toArray 41))
 have N1:=Lib.hid (Arr.new (w.alloc (.cells (V zeros).toArray 41)) (V zeros) 41 (g:=w.heap.size + 1) (by simp))
 have B0:=Lib.hid (((Below.refl w.heap.size w).alloc (Nat.le_refl _) (.cells (V zeros).toArray 41)).alloc (by simp) (.cells (V zeros).toArray 41))
 go_enter sqp.func58,sqp.ntmps58
 go_wp2_with fail
 refine (qhr A n c xs _ _ (HX.out.keep B0.out hh1) hn).mono ?_
 rintro e w1 ⟨rfl,b1⟩
 have hs1:w.heap.size + 2<=w1.heap.size:=by have:=b1.size;simpa using this
 have P0:=Lib.hid (N0.out.keep b1 (by simp;omega));have P1:=Lib.hid (N1.out.keep b1 (by simp))
 have B1:=Lib.hid (B0.out.trans (b1.mono B0.out.size))
 clear b1 N0 N1 B0
 have Q1:=Lib.hid ((Arr.new w1 (V zeros) 41 rfl).row (cs':=V (pv xs)))
 go_wp2_with (refine wpList_store_row rfl 41 _ _ rfl w1.heap.size (V (pv xs)).toArray rfl rfl 41 (V zeros).toArray (Arr.new w1 (V zeros) _ rfl) (qo (qe5 _)) (by simp [q8,qe5,zeros]) (zy _) ?_)
 refine (qhr B m d ys _ _ (HY.out.keep (below_setRow (B1.out.alloc B1.out.size _) (by omega) _) hh2) hm).mono ?_
 rintro e w2 ⟨rfl,b2⟩
 have hs2:w1.heap.size + 1<=w2.heap.size:=by have:=b2.size;simpa using this
 have R0:=Lib.hid (((P0.out.alloc _).qh (by omega)).keep b2 (by simp;omega))
 have R1:=Lib.hid (((P1.out.alloc _).qh (by omega)).keep b2 (by simp;omega))
 have R2:=Lib.hid ((Arr.new w1 (V zeros) _ rfl).row.keep b2 (by simp))
 have B2:=Lib.hid ((below_setRow (B1.out.alloc B1.out.size _) (by omega) _).trans (b2.mono (by simp;omega)))
 clear b2 P0 P1 Q1 B1
 by_cases hall:okB xs = true/\okB ys = true/\n = m
 ·obtain ⟨ox,oy,rfl⟩:=hall
  have HF:Hid (qd3 xs ys = true):=Lib.hid (by simp [qd3,ox,oy,LX.out,LY.out])
  have px:pv xs = ext xs:=by simp [pv,ox]
  have py:pv ys = ext ys:=by simp [pv,oy]
  rw [ox,oy]
  rw [px] at R2 ⊢;rw [py]
  clear ox oy px py
  go_wp2_with (refine wpList_store_row rfl 41 _ _ rfl w2.heap.size (V (ext ys)).toArray rfl rfl 41 (V zeros).toArray (Arr.new w2 (V zeros) _ rfl) (qo (qc _)) (by simp [q8,qc,zeros]) (zy _) ?_)
  generalize hw3:(w2.alloc (.cells #[.int .i64 0,.int .i64 0,.int .i64 0,.int .i64 0,.int .i64 0,.int .i64 0,.int .i64 0,.int .i64 0,.int .i64 0,.int .i64 0,.int .i64 0,.int .i64 0,.int .i64 0,.int .i64 0,.int .i64 0,.int .i64 0,.int .i64 0,.int .i64 0,.int .i64 0,.int .i64 0,.int .i64 0,.int .i64 0,.int .i64 0,.int .i64 0] 41)).setRow w2.heap.size (V (ext ys)).toArray = w3
  have S0:Arr w3 w.heap.size (V zeros) 41:=by rw [<-hw3];exact (R0.out.alloc _).qh (by omega)
  have S1:Arr w3 (w.heap.size + 1) (V zeros) 41:=by rw [<-hw3];exact (R1.out.alloc _).qh (by omega)
  have S2:Arr w3 w1.heap.size (V (ext xs)) 41:=by rw [<-hw3];exact (R2.out.alloc _).qh (by omega)
  have S3:Arr w3 w2.heap.size (V (ext ys)) 41:=by rw [<-hw3];exact (Arr.new w2 (V zeros) _ rfl).row
  have B3:Hid (Below w.heap.size w w3):=Lib.hid (by rw [<-hw3];exact below_setRow (B2.out.alloc B2.out.size _) (by omega) _)
  clear hw3 R0 R1 R2 B2
  clear HX HY LX LY
  refine wp_region_any (by kernel_rfl) ?_
  generalize hwd:({ w3 with drawn:=w3.drawn + 1 }:World) = wd
  replace S0:Arr wd w.heap.size (V zeros) 41:=by rw [<-hwd];exact S0
  replace S1:Arr wd (w.heap.size + 1) (V zeros) 41:=by rw [<-hwd];exact S1
  replace S2:Arr wd w1.heap.size (V (ext xs)) 41:=by rw [<-hwd];exact S2
  replace S3:Arr wd w2.heap.size (V (ext ys)) 41:=by rw [<-hwd];exact S3
  replace B3:Hid (Below w.heap.size w wd):=Lib.hid (by rw [<-hwd];exact ql4 B3.out)
  clear hwd w3
  refine wpAny_ready (rs:=[0,1]) (by kernel_rfl) (by simp) (AllReady.cons rfl (fun K hK=>?_) (AllReady.cons rfl (fun K hK=>?_) AllReady.nil))
  ·refine mo rfl 41 (.tmp 7) rfl w1.heap.size rfl 41 (V (ext xs)).toArray (0,0) _ S2 sqp.underlying41 rfl (qo (qc _)) ?_;refine hK _ _ ?_;clear hK K
   refine wpAny_ready (rs:=[1,2]) (by kernel_rfl) (by simp) (AllReady.cons rfl (fun K hK=>?_) (AllReady.cons rfl (fun K hK=>?_) AllReady.nil))
   ·refine mo rfl 41 (.tmp 9) rfl w2.heap.size rfl 41 (V (ext ys)).toArray (0,0) _ S3 sqp.underlying41 rfl (qo (qc _)) ?_;refine hK _ _ ?_;clear hK K
    refine wpAny_ready (rs:=[2]) (by kernel_rfl) (by simp) (AllReady.cons rfl (fun K hK=>?_) AllReady.nil)
    refine ql rfl 41 (.tmp 4) (.tmp 36) rfl w.heap.size (V (ext xs)).toArray rfl rfl 41 (V zeros).toArray S0 (qo (qc _)) (by simp [q8,zeros,qc]) (zy _) ?_;refine hK _ _ ?_;clear hK K
    refine wpAny_ready (rs:=[3]) (by kernel_rfl) (by simp) (AllReady.cons rfl (fun K hK=>?_) AllReady.nil)
    refine ql rfl 41 (.tmp 5) (.tmp 37) rfl (w.heap.size + 1) (V (ext ys)).toArray rfl rfl 41 (V zeros).toArray (S1.qh (by omega)) (qo (qc _)) (by simp [q8,zeros,qc]) (zy _) ?_;refine hK _ _ ?_;clear hK K
    refine wpAny_ready (rs:=[4]) (by kernel_rfl) (by simp) (AllReady.cons rfl (fun K hK=>?_) AllReady.nil)
    refine qds rfl _ rfl ?_;refine hK _ _ ?_;clear hK K
    refine wpAny_done (by kernel_rfl) ?_ _
    go_wp2
    exact bodyPost_ret (v:=.tuple #[.agg (V (ext xs)).toArray,.agg (V (ext ys)).toArray,.bool true]) (jl rfl _ _ w.heap.size (w.heap.size + 1) 41 (V (ext xs)).toArray (V (ext ys)).toArray (0,0) _ _ rfl rfl rfl (S0.row.qh (by omega)) (S1.qh (by omega)).row sqp.underlying41 rfl (qo (qc _)) (qo (qc _))) rfl (qf9 HF.out (below_setRow (below_setRow B3.out (Nat.le_refl _) _) (by omega) _))
   ·refine ql rfl 41 (.tmp 4) (.tmp 36) rfl w.heap.size (V (ext xs)).toArray rfl rfl 41 (V zeros).toArray S0 (qo (qc _)) (by simp [q8,zeros,qc]) (zy _) ?_;refine hK _ _ ?_;clear hK K
    refine wpAny_ready (rs:=[1]) (by kernel_rfl) (by simp) (AllReady.cons rfl (fun K hK=>?_) AllReady.nil)
    refine mo rfl 41 (.tmp 9) rfl w2.heap.size rfl 41 (V (ext ys)).toArray (0,0) _ (S3.qh (by omega)) sqp.underlying41 rfl (qo (qc _)) ?_;refine hK _ _ ?_;clear hK K
    refine wpAny_ready (rs:=[3]) (by kernel_rfl) (by simp) (AllReady.cons rfl (fun K hK=>?_) AllReady.nil)
    refine ql rfl 41 (.tmp 5) (.tmp 37) rfl (w.heap.size + 1) (V (ext ys)).toArray rfl rfl 41 (V zeros).toArray (S1.qh (by omega)) (qo (qc _)) (by simp [q8,zeros,qc]) (zy _) ?_;refine hK _ _ ?_;clear hK K
    refine wpAny_ready (rs:=[4]) (by kernel_rfl) (by simp) (AllReady.cons rfl (fun K hK=>?_) AllReady.nil)
    refine qds rfl _ rfl ?_;refine hK _ _ ?_;clear hK K
    refine wpAny_done (by kernel_rfl) ?_ _
    go_wp2
    exact bodyPost_ret (v:=.tuple #[.agg (V (ext xs)).toArray,.agg (V (ext ys)).toArray,.bool true]) (jl rfl _ _ w.heap.size (w.heap.size + 1) 41 (V (ext xs)).toArray (V (ext ys)).toArray (0,0) _ _ rfl rfl rfl (S0.row.qh (by omega)) (S1.qh (by omega)).row sqp.underlying41 rfl (qo (qc _)) (qo (qc _))) rfl (qf9 HF.out (below_setRow (below_setRow B3.out (Nat.le_refl _) _) (by omega) _))
  ·refine mo rfl 41 (.tmp 9) rfl w2.heap.size rfl 41 (V (ext ys)).toArray (0,0) _ S3 sqp.underlying41 rfl (qo (qc _)) ?_;refine hK _ _ ?_;clear hK K
   refine wpAny_ready (rs:=[0]) (by kernel_rfl) (by simp) (AllReady.cons rfl (fun K hK=>?_) AllReady.nil)
   refine mo rfl 41 (.tmp 7) rfl w1.heap.size rfl 41 (V (ext xs)).toArray (0,0) _ S2 sqp.underlying41 rfl (qo (qc _)) ?_;refine hK _ _ ?_;clear hK K
   refine wpAny_ready (rs:=[2]) (by kernel_rfl) (by simp) (AllReady.cons rfl (fun K hK=>?_) AllReady.nil)
   refine ql rfl 41 (.tmp 4) (.tmp 36) rfl w.heap.size (V (ext xs)).toArray rfl rfl 41 (V zeros).toArray S0 (qo (qc _)) (by simp [q8,zeros,qc]) (zy _) ?_;refine hK _ _ ?_;clear hK K
   refine wpAny_ready (rs:=[3]) (by kernel_rfl) (by simp) (AllReady.cons rfl (fun K hK=>?_) AllReady.nil)
   refine ql rfl 41 (.tmp 5) (.tmp 37) rfl (w.heap.size + 1) (V (ext ys)).toArray rfl rfl 41 (V zeros).toArray (S1.qh (by omega)) (qo (qc _)) (by simp [q8,zeros,qc]) (zy _) ?_;refine hK _ _ ?_;clear hK K
   refine wpAny_ready (rs:=[4]) (by kernel_rfl) (by simp) (AllReady.cons rfl (fun K hK=>?_) AllReady.nil)
   refine qds rfl _ rfl ?_;refine hK _ _ ?_;clear hK K
   refine wpAny_done (by kernel_rfl) ?_ _
   go_wp2
   exact bodyPost_ret (v:=.tuple #[.agg (V (ext xs)).toArray,.agg (V (ext ys)).toArray,.bool true]) (jl rfl _ _ w.heap.size (w.heap.size + 1) 41 (V (ext xs)).toArray (V (ext ys)).toArray (0,0) _ _ rfl rfl rfl (S0.row.qh (by omega)) (S1.qh (by omega)).row sqp.underlying41 rfl (qo (qc _)) (qo (qc _))) rfl (qf9 HF.out (below_setRow (below_setRow B3.out (Nat.le_refl _) _) (by omega) _))
 ·by_cases ox:okB xs = true
  ·by_cases oy:okB ys = true
   ·have hne:n ≠ m:=fun e=>hall ⟨ox,oy,e⟩
    have HF:Hid (qd3 xs ys = false):=Lib.hid (by simp [qd3,ox,oy,LX.out,LY.out,hne])
    have hb:((n:Int) != (m:Int)) = true:=by simp;omega
    rw [ox,oy]
    clear ox oy hall
    go_wp2_with (first | (refine wpList_store_row rfl 41 (.tmp 9) (.tmp 19) rfl w2.heap.size (V (pv ys)).toArray rfl rfl 41 (V zeros).toArray (Arr.new w2 (V zeros) _ rfl) (qo (qe5 _)) (by simp [q8,qe5,zeros]) (zy _) ?_;generalize hw3:(w2.alloc (.cells #[.int .i64 0,.int .i64 0,.int .i64 0,.int .i64 0,.int .i64 0,.int .i64 0,.int .i64 0,.int .i64 0,.int .i64 0,.int .i64 0,.int .i64 0,.int .i64 0,.int .i64 0,.int .i64 0,.int .i64 0,.int .i64 0,.int .i64 0,.int .i64 0,.int .i64 0,.int .i64 0,.int .i64 0,.int .i64 0,.int .i64 0,.int .i64 0] 41)).setRow w2.heap.size (V (pv ys)).toArray = w3;have S0:Hid (Arr w3 w.heap.size (V zeros) 41):=Lib.hid (by rw [<-hw3];exact (R0.out.alloc _).qh (by omega));have S1:Hid (Arr w3 (w.heap.size + 1) (V zeros) 41):=Lib.hid (by rw [<-hw3];exact (R1.out.alloc _).qh (by omega));have B3:Hid (Below w.heap.size w w3):=Lib.hid (by rw [<-hw3];exact below_setRow (B2.out.alloc B2.out.size _) (by omega) _);clear hw3 R0 R1 R2 B2) | (refine wpList_store_row rfl 41 (.tmp 4) (.tmp 34) rfl w.heap.size (V zeros).toArray rfl rfl 41 (V zeros).toArray S0.out (qo zf) rfl (zy _) ?_) | (refine wpList_store_row rfl 41 (.tmp 5) (.tmp 35) rfl (w.heap.size + 1) (V zeros).toArray rfl rfl 41 (V zeros).toArray (S1.out.qh (by omega)) (qo zf) rfl (zy _) ?_))
    exact bodyPost_ret (v:=.tuple #[.agg (V zeros).toArray,.agg (V zeros).toArray,.bool false]) (jl rfl _ _ w.heap.size (w.heap.size + 1) 41 (V zeros).toArray (V zeros).toArray (0,0) _ _ rfl rfl rfl (S0.out.row.qh (by omega)) (S1.out.qh (by omega)).row sqp.underlying41 rfl (qo zf) (qo zf)) rfl (qir HF.out (below_setRow (below_setRow B3.out (Nat.le_refl _) _) (by omega) _))
   ·have oy':okB ys = false:=by simpa using oy
    have HF:Hid (qd3 xs ys = false):=Lib.hid (by simp [qd3,oy'])
    rw [ox,oy']
    clear ox oy oy' hall
    go_wp2_with (first | (refine wpList_store_row rfl 41 (.tmp 9) (.tmp 19) rfl w2.heap.size (V (pv ys)).toArray rfl rfl 41 (V zeros).toArray (Arr.new w2 (V zeros) _ rfl) (qo (qe5 _)) (by simp [q8,qe5,zeros]) (zy _) ?_;generalize hw3:(w2.alloc (.cells #[.int .i64 0,.int .i64 0,.int .i64 0,.int .i64 0,.int .i64 0,.int .i64 0,.int .i64 0,.int .i64 0,.int .i64 0,.int .i64 0,.int .i64 0,.int .i64 0,.int .i64 0,.int .i64 0,.int .i64 0,.int .i64 0,.int .i64 0,.int .i64 0,.int .i64 0,.int .i64 0,.int .i64 0,.int .i64 0,.int .i64 0,.int .i64 0] 41)).setRow w2.heap.size (V (pv ys)).toArray = w3;have S0:Hid (Arr w3 w.heap.size (V zeros) 41):=Lib.hid (by rw [<-hw3];exact (R0.out.alloc _).qh (by omega));have S1:Hid (Arr w3 (w.heap.size + 1) (V zeros) 41):=Lib.hid (by rw [<-hw3];exact (R1.out.alloc _).qh (by omega));have B3:Hid (Below w.heap.size w w3):=Lib.hid (by rw [<-hw3];exact below_setRow (B2.out.alloc B2.out.size _) (by omega) _);clear hw3 R0 R1 R2 B2) | (refine wpList_store_row rfl 41 (.tmp 4) (.tmp 34) rfl w.heap.size (V zeros).toArray rfl rfl 41 (V zeros).toArray S0.out (qo zf) rfl (zy _) ?_) | (refine wpList_store_row rfl 41 (.tmp 5) (.tmp 35) rfl (w.heap.size + 1) (V zeros).toArray rfl rfl 41 (V zeros).toArray (S1.out.qh (by omega)) (qo zf) rfl (zy _) ?_))
    exact bodyPost_ret (v:=.tuple #[.agg (V zeros).toArray,.agg (V zeros).toArray,.bool false]) (jl rfl _ _ w.heap.size (w.heap.size + 1) 41 (V zeros).toArray (V zeros).toArray (0,0) _ _ rfl rfl rfl (S0.out.row.qh (by omega)) (S1.out.qh (by omega)).row sqp.underlying41 rfl (qo zf) (qo zf)) rfl (qir HF.out (below_setRow (below_setRow B3.out (Nat.le_refl _) _) (by omega) _))
  ·have ox':okB xs = false:=by simpa using ox
   have HF:Hid (qd3 xs ys = false):=Lib.hid (by simp [qd3,ox'])
   rw [ox']
   clear ox ox' hall
   generalize okB ys = q
   go_wp2_with (first | (refine wpList_store_row rfl 41 (.tmp 9) (.tmp 19) rfl w2.heap.size (V (pv ys)).toArray rfl rfl 41 (V zeros).toArray (Arr.new w2 (V zeros) _ rfl) (qo (qe5 _)) (by simp [q8,qe5,zeros]) (zy _) ?_;generalize hw3:(w2.alloc (.cells #[.int .i64 0,.int .i64 0,.int .i64 0,.int .i64 0,.int .i64 0,.int .i64 0,.int .i64 0,.int .i64 0,.int .i64 0,.int .i64 0,.int .i64 0,.int .i64 0,.int .i64 0,.int .i64 0,.int .i64 0,.int .i64 0,.int .i64 0,.int .i64 0,.int .i64 0,.int .i64 0,.int .i64 0,.int .i64 0,.int .i64 0,.int .i64 0] 41)).setRow w2.heap.size (V (pv ys)).toArray = w3;have S0:Hid (Arr w3 w.heap.size (V zeros) 41):=Lib.hid (by rw [<-hw3];exact (R0.out.alloc _).qh (by omega));have S1:Hid (Arr w3 (w.heap.size + 1) (V zeros) 41):=Lib.hid (by rw [<-hw3];exact (R1.out.alloc _).qh (by omega));have B3:Hid (Below w.heap.size w w3):=Lib.hid (by rw [<-hw3];exact below_setRow (B2.out.alloc B2.out.size _) (by omega) _);clear hw3 R0 R1 R2 B2) | (refine wpList_store_row rfl 41 (.tmp 4) (.tmp 34) rfl w.heap.size (V zeros).toArray rfl rfl 41 (V zeros).toArray S0.out (qo zf) rfl (zy _) ?_) | (refine wpList_store_row rfl 41 (.tmp 5) (.tmp 35) rfl (w.heap.size + 1) (V zeros).toArray rfl rfl 41 (V zeros).toArray (S1.out.qh (by omega)) (qo zf) rfl (zy _) ?_))
   exact bodyPost_ret (v:=.tuple #[.agg (V zeros).toArray,.agg (V zeros).toArray,.bool false]) (jl rfl _ _ w.heap.size (w.heap.size + 1) 41 (V zeros).toArray (V zeros).toArray (0,0) _ _ rfl rfl rfl (S0.out.row.qh (by omega)) (S1.out.qh (by omega)).row sqp.underlying41 rfl (qo zf) (qo zf)) rfl (qir HF.out (below_setRow (below_setRow B3.out (Nat.le_refl _) _) (by omega) _))
end Go.Proofs.Ytcdclihinmdgiaa.permOf

namespace Go.Proofs.Ytcdclihinmdgiaa.pm
open arr inv permOf
set_option linter.unusedVariables false
set_option maxRecDepth 100000
theorem Ok.sq {xs:List Int} (h:Ok xs):Sq (ext xs):=by
 refine ⟨qc xs,fun i hi=>?_,fun i hi=>?_⟩
 ·rw [j5 hi];split
  ·exact h.lo i (by assumption)
  ·omega
 ·rw [j5 hi];split
  ·have:=h.hi i (by assumption);have:=h.len;omega
  ·omega
theorem qn3 {l:List Int} {i k:Nat} {z:Int}:(l.set k z).getD i 0 = if k = i/\i < l.length then z else l.getD i 0:=by
 simp only [List.getD,List.getElem?_set]
 by_cases e:k = i
 ·subst e
  by_cases h:k < l.length
  ·simp [h]
  ·simp [h]
 ·simp [e]
theorem qga (n:Nat) (qs:List Int) (k:Nat) (hk:k<=24) (i:Nat):0<=(x9 n qs k).getD i 0/\(x9 n qs k).getD i 0 < 24:=by
 induction k with
 | zero =>
  simp only [x9,List.getD,List.getElem?_replicate]
  split <;> simp
 | succ k ih =>
  have:=ih (by omega)
  rw [x9,qn3]
  split
  ·omega
  ·exact this
theorem qn4 (qs:List Int):Sq (x9 24 qs 24) :=
 ⟨uf _ _ _,fun i _=>(qga 24 qs 24 (Nat.le_refl _) i).1,fun i _=>(qga 24 qs 24 (Nat.le_refl _) i).2⟩
theorem qsc {ps qs:List Int} (hp:Sq ps) (hq:Sq qs):Sq (qbh ps qs):=by
 refine ⟨jy _,fun i hi=>?_,fun i hi=>?_⟩
 ·unfold qbh;rw [qdm _ hi]
  exact hq.lo _ (by have:=hp.lo i hi;have:=hp.hi i hi;omega)
 ·unfold qbh;rw [qdm _ hi]
  exact hq.hi _ (by have:=hp.lo i hi;have:=hp.hi i hi;omega)
theorem qao {l m:List Int} (n:Nat) (h1:l.length = n) (h2:m.length = n) (h:∀ i,i < n->l.getD i 0 = m.getD i 0):l = m:=by
 refine List.ext_getElem? fun i=>?_
 by_cases hi:i < n
 ·have:=h i hi
  rw [List.getD,List.getD,List.getElem?_eq_getElem (by omega),List.getElem?_eq_getElem (by omega)] at this
  rw [List.getElem?_eq_getElem (by omega),List.getElem?_eq_getElem (by omega)]
  simpa using this
 ·rw [List.getElem?_eq_none (by omega),List.getElem?_eq_none (by omega)]
theorem getD_take {l:List Int} {n i:Nat} (h:i < n):(l.take n).getD i 0 = l.getD i 0:=by
 simp [List.getD,h]
def qzi (xs:List Int):List Int:=if okB xs then x9 xs.length xs xs.length else []
theorem qvd {xs:List Int} (h:Ok xs):(x9 24 (ext xs) 24).take xs.length = x9 xs.length xs xs.length:=by
 have hl:=h.len
 have A:∀ k,k<=xs.length->(x9 24 (ext xs) k).take xs.length = x9 xs.length xs k:=by
  intro k
  induction k with
  | zero=>intro _;rw [x9,x9,List.take_replicate,Nat.min_eq_left hl]
  | succ k ih =>
   intro hk
   have e:(ext xs).getD k 0 = xs.getD k 0:=by rw [j5 (by omega),if_pos (by omega)]
   rw [x9,x9,e,List.take_set,ih (by omega)]
 have B:∀ k,xs.length<=k->k<=24->(x9 24 (ext xs) k).take xs.length = x9 xs.length xs xs.length:=by
  intro k hk
  induction k with
  | zero =>
   intro _
   have e:xs.length = 0:=by omega
   rw [A 0 (Nat.zero_le _),e]
  | succ k ih =>
   intro h24
   by_cases e:xs.length = k + 1
   ·rw [<-e];exact A _ (Nat.le_refl _)
   ·have hk':xs.length<=k:=by omega
    have ee:(ext xs).getD k 0 = (k:Int):=by rw [j5 (by omega),if_neg (by omega)]
    rw [x9,ee,Int.toNat_natCast,List.take_set_of_le hk',ih hk' (by omega)]
 exact B 24 hl (Nat.le_refl _)
def thn (xs ys:List Int):List Int:=xs.map fun x=>ys.getD x.toNat 0
def qkg (xs ys:List Int):List Int:=if qd3 xs ys then thn xs ys else []
theorem qc7 {xs ys:List Int}:qd3 xs ys = true ↔ okB xs = true/\okB ys = true/\xs.length = ys.length:=by
 simp [qd3,and_assoc]
def idF (a:Int):List Int:=if 0<=a/\a<=24 then (List.range a.toNat).map (fun (i:Nat)=>(i:Int)) else []
end Go.Proofs.Ytcdclihinmdgiaa.pm

namespace Go.Proofs.Ytcdclihinmdgiaa.pm
open arr inv permOf
set_option linter.unusedVariables false
set_option maxRecDepth 100000
theorem qn5:∀ (n:Nat) (l:List Nat),l.Nodup->(∀ x ∈ l,x < n)->l.length<=n:=by
 intro n
 induction n with
 | zero =>
  intro l _ h
  cases l with
  | nil=>simp
  | cons a t=>have:=h a (by simp);omega
 | succ n ih =>
  intro l hd h
  by_cases hm:n ∈ l
  ·have h1:=ih (l.erase n) (hd.erase n) (fun x hx=>by
    have h2:=(List.Nodup.mem_erase_iff hd).1 hx
    have:=h x h2.2
    have:=h2.1
    omega)
   rw [List.length_erase_of_mem hm] at h1
   omega
  ·have h1:=ih l hd (fun x hx=>by
    have:=h x hx
    have:x ≠ n:=fun e=>hm (e ▸ hx)
    omega)
   omega
theorem ql6 (n:Nat) (f:Nat->Nat) (h1:∀ i,i < n->f i < n) (h2:∀ i j,i < n->j < n->f i = f j->i = j) (y:Nat) (hy:y < n):∃ k,k < n/\f k = y:=by
 by_cases h:∃ k,k < n/\f k = y
 ·exact h
 ·exfalso
  have hn:((List.range n).map f).Nodup:=by
   unfold List.Nodup
   rw [List.pairwise_map]
   refine List.Pairwise.imp_of_mem ?_ (List.pairwise_lt_range (n:=n))
   intro a b ha hb hab e
   simp at ha hb
   have:=h2 a b ha hb e
   omega
  have hy':¬ y ∈ (List.range n).map f:=by
   intro hm
   obtain ⟨k,hk,e⟩:=List.mem_map.1 hm
   simp at hk
   exact h ⟨k,hk,e⟩
  have:=qn5 n (y :: (List.range n).map f) (List.nodup_cons.2 ⟨hy',hn⟩) (by
   intro x hx
   rcases List.mem_cons.1 hx with rfl | hx
   ·exact hy
   ·obtain ⟨k,hk,rfl⟩:=List.mem_map.1 hx
    simp at hk
    exact h1 k hk)
  simp at this
  omega
theorem Ok.onto {ys:List Int} (h:Ok ys) {y:Nat} (hy:y < ys.length):∃ k,k < ys.length/\ys.getD k 0 = (y:Int):=by
 obtain ⟨k,hk,e⟩:=ql6 ys.length (fun i=>(ys.getD i 0).toNat) (fun i hi=>by have:=h.lo i hi;have:=h.hi i hi;omega) (fun i j hi hj e=>h.inj i j hi hj (by have:=h.lo i hi;have:=h.lo j hj;omega)) y hy
 exact ⟨k,hk,by have:=h.lo k hk;omega⟩
def qhd (n:Nat) (f:Nat->Nat) (g:Nat->Int):Nat->List Int
 | 0=>List.replicate n 0
 | k + 1=>(qhd n f g k).set (f k) (g k)
theorem qkh (n:Nat) (f:Nat->Nat) (g:Nat->Int) (k:Nat):(qhd n f g k).length = n:=by
 induction k with
 | zero=>simp [qhd]
 | succ k ih=>simp [qhd,ih]
theorem qn6 (n:Nat) (f:Nat->Nat) (g:Nat->Int) (k:Nat) (hf:∀ i j,i < k->j < k->f i = f j->i = j) (hl:∀ i,i < k->f i < n) {j:Nat} (hj:j < k):(qhd n f g k).getD (f j) 0 = g j:=by
 induction k with
 | zero=>omega
 | succ k ih =>
  rw [qhd,qn3]
  by_cases e:j = k
  ·subst e;rw [if_pos ⟨rfl,by rw [qkh];exact hl j (by omega)⟩]
  ·rw [if_neg (fun h=>e (hf j k (by omega) (by omega) h.1.symm)),ih (fun i j hi hj=>hf i j (by omega) (by omega)) (fun i hi=>hl i (by omega)) (by omega)]
theorem qve (n:Nat) (qs:List Int) (k:Nat):x9 n qs k = qhd n (fun j=>(qs.getD j 0).toNat) (fun j=>(j:Int)) k:=by
 induction k with
 | zero=>rfl
 | succ k ih=>rw [x9,qhd,ih]
theorem Ok.q3m {ys:List Int} (h:Ok ys):∀ i j,i < ys.length->j < ys.length->(ys.getD i 0).toNat = (ys.getD j 0).toNat->i = j :=
 fun i j hi hj e=>h.inj i j hi hj (by have:=h.lo i hi;have:=h.lo j hj;omega)
theorem Ok.ltN {ys:List Int} (h:Ok ys):∀ i,i < ys.length->(ys.getD i 0).toNat < ys.length :=
 fun i hi=>by have:=h.lo i hi;have:=h.hi i hi;omega
theorem qki {ys:List Int} (h:Ok ys) {k:Nat} (hk:k < ys.length):(x9 ys.length ys ys.length).getD (ys.getD k 0).toNat 0 = (k:Int):=by
 rw [qve,qn6 _ _ _ _ h.q3m h.ltN hk]
def dz (n:Nat) (xs ys:List Int) (k:Nat):List Int:=qhd n (fun j=>(ys.getD j 0).toNat) (fun j=>ys.getD (xs.getD j 0).toNat 0) k
theorem xk (n:Nat) (xs ys:List Int) (k:Nat):(dz n xs ys k).length = n:=qkh _ _ _ _
theorem qpj (n:Nat) (xs ys:List Int) (k:Nat):dz n xs ys (k + 1) = (dz n xs ys k).set (ys.getD k 0).toNat (ys.getD (xs.getD k 0).toNat 0):=rfl
def qxl (xs ys:List Int):List Int:=if qd3 xs ys then dz xs.length xs ys xs.length else []
theorem qsd {xs ys:List Int} (h':Ok ys) (e:xs.length = ys.length) {k:Nat} (hk:k < xs.length):(dz xs.length xs ys xs.length).getD (ys.getD k 0).toNat 0 = ys.getD (xs.getD k 0).toNat 0:=by
 unfold dz
 rw [e]
 exact qn6 _ _ _ _ h'.q3m h'.ltN (by omega)
theorem qit (ps qs:List Int) {i:Nat} (h:i < 24):(qbh ps qs).getD i 0 = qs.getD (ps.getD i 0).toNat 0:=by
 unfold qbh;rw [qdm _ h]
theorem qvf {xs ys:List Int} (h:Ok xs) (h':Ok ys) (e:xs.length = ys.length):(qbh (qbh (x9 24 (ext ys) 24) (ext xs)) (ext ys)).take xs.length = dz xs.length xs ys xs.length:=by
 have hl:=h.len
 refine qao xs.length (by simp [qbh,jy];omega) (xk _ _ _ _) fun i hi=>?_
 obtain ⟨k,hk,ek⟩:=h'.onto (y:=i) (by omega)
 have e1:(x9 24 (ext ys) 24).getD i 0 = (k:Int):=by
  rw [<-getD_take (n:=ys.length) (by omega),qvd h']
  have:=qki h' hk
  rw [ek] at this
  simpa using this
 rw [getD_take hi,qit _ _ (by omega),qit _ _ (by omega),e1,Int.toNat_natCast]
 have h1:=h.lo k (by omega);have h2:=h.hi k (by omega)
 rw [j5 (xs:=xs) (i:=k) (by omega),if_pos (by omega),j5 (by omega),if_pos (by omega)]
 have:=qsd (xs:=xs) h' e (k:=k) (by omega)
 rw [ek] at this
 simpa using this.symm
end Go.Proofs.Ytcdclihinmdgiaa.pm

namespace Go.Proofs.Ytcdclihinmdgiaa.pm
open arr inv permOf
set_option linter.unusedVariables false
set_option maxRecDepth 100000
def add1 (l:List Int) (x:Int):List Int:=if x ∈ l then l else l ++ [x]
def rnd (ps qs l:List Int) (k:Nat):List Int:=if k < l.length then add1 (add1 l (ps.getD (l.getD k 0).toNat 0)) (qs.getD (l.getD k 0).toNat 0) else l
def rs (ps qs:List Int) (f:Int):Nat->List Int
 | 0=>[f]
 | k + 1=>rnd ps qs (rs ps qs f k) k
structure In (n:Nat) (l:List Int):Prop where
 nd:l.Nodup
 lo:∀ x ∈ l,0<=x
 hi:∀ x ∈ l,x < n
theorem In.len {n:Nat} {l:List Int} (h:In n l):l.length<=n:=by
 have:=qn5 n (l.map Int.toNat) (by
  unfold List.Nodup
  rw [List.pairwise_map]
  refine List.Pairwise.imp_of_mem ?_ h.nd
  intro a b ha hb hab e
  have:=h.lo a ha;have:=h.lo b hb
  exact hab (by omega)) (by
  intro x hx
  obtain ⟨y,hy,rfl⟩:=List.mem_map.1 hx
  have:=h.lo y hy;have:=h.hi y hy
  omega)
 simpa using this
theorem In.add {n:Nat} {l:List Int} (h:In n l) {x:Int} (h0:0<=x) (h1:x < n):In n (add1 l x):=by
 unfold add1
 split
 ·exact h
 ·rename_i hx
  refine ⟨?_,fun y hy=>?_,fun y hy=>?_⟩
  ·rw [List.nodup_append]
   exact ⟨h.nd,by simp,fun a ha b hb e=>by simp at hb;subst hb;exact hx (e ▸ ha)⟩
  ·rcases List.mem_append.1 hy with hy | hy
   ·exact h.lo y hy
   ·simp at hy;subst hy;exact h0
  ·rcases List.mem_append.1 hy with hy | hy
   ·exact h.hi y hy
   ·simp at hy;subst hy;exact h1
theorem qsl (l:List Int) (x:Int):l.length<=(add1 l x).length:=by unfold add1;split <;> simp
def Maps (n:Nat) (ps:List Int):Prop:=∀ i,i < n->0<=ps.getD i 0/\ps.getD i 0 < n
theorem Ok.maps {xs:List Int} (h:Ok xs):Maps xs.length xs:=fun i hi=>⟨h.lo i hi,h.hi i hi⟩
theorem Sq.maps {xs:List Int} (h:Sq xs):Maps 24 xs:=fun i hi=>⟨h.lo i hi,h.hi i hi⟩
theorem In.at_ {n:Nat} {l:List Int} (h:In n l) {k:Nat} (hk:k < l.length):∃ z:Nat,z < n/\l[k]? = some (z:Int)/\l.getD k 0 = (z:Int):=by
 have hm:l[k] ∈ l:=List.getElem_mem hk
 have h1:=h.lo _ hm;have h2:=h.hi _ hm
 refine ⟨l[k].toNat,by omega,?_,?_⟩
 ·rw [List.getElem?_eq_getElem hk];congr 1;omega
 ·simp [List.getD,List.getElem?_eq_getElem hk];omega
theorem In.rnd {n:Nat} {l ps qs:List Int} (h:In n l) (hp:Maps n ps) (hq:Maps n qs) (k:Nat):In n (rnd ps qs l k):=by
 unfold pm.rnd
 split
 ·rename_i hk
  obtain ⟨z,hz,_,e⟩:=h.at_ hk
  rw [e,Int.toNat_natCast]
  exact (h.add (hp z hz).1 (hp z hz).2).add (hq z hz).1 (hq z hz).2
 ·exact h
theorem qgc {n:Nat} {ps qs:List Int} (hp:Maps n ps) (hq:Maps n qs) {f:Int} (h0:0<=f) (h1:f < n) (k:Nat):In n (rs ps qs f k):=by
 induction k with
 | zero=>exact ⟨by simp [rs],fun x hx=>by simp [rs] at hx;omega,fun x hx=>by simp [rs] at hx;omega⟩
 | succ k ih=>exact ih.rnd hp hq k
theorem qzp (ps qs:List Int) (f:Int) {k:Nat} (h:(rs ps qs f k).length<=k) (j:Nat):rs ps qs f (k + j) = rs ps qs f k:=by
 induction j with
 | zero=>rfl
 | succ j ih =>
  show pm.rnd ps qs (rs ps qs f (k + j)) (k + j) = _
  rw [ih]
  unfold pm.rnd
  rw [if_neg (by omega)]
theorem ql9 (ps qs:List Int) (f:Int) {k m:Nat} (h:(rs ps qs f k).length<=k) (hm:k<=m):rs ps qs f m = rs ps qs f k:=by
 obtain ⟨j,rfl⟩:∃ j,m = k + j:=⟨m - k,by omega⟩
 exact qzp ps qs f h j
theorem qix (ps qs:List Int) (f:Int) {k z:Nat} (h:k < (rs ps qs f k).length) (hz:(rs ps qs f k).getD k 0 = (z:Int)):rs ps qs f (k + 1) = add1 (add1 (rs ps qs f k) (ps.getD z 0)) (qs.getD z 0):=by
 show pm.rnd ps qs (rs ps qs f k) k = _
 unfold pm.rnd
 rw [if_pos h,hz,Int.toNat_natCast]
theorem qzq (ps qs:List Int) (f:Int) {k:Nat} (h:k < (rs ps qs f k).length):k + 1<=(rs ps qs f (k + 1)).length:=by
 show _<=(pm.rnd ps qs (rs ps qs f k) k).length
 unfold pm.rnd
 rw [if_pos h]
 exact Nat.le_trans h (Nat.le_trans (qsl _ _) (qsl _ _))
theorem qvq {n:Nat} {ps qs ps' qs':List Int} (hp:Maps n ps) (hq:Maps n qs) (h1:∀ i,i < n->ps'.getD i 0 = ps.getD i 0) (h2:∀ i,i < n->qs'.getD i 0 = qs.getD i 0) {f:Int} (hf0:0<=f) (hf1:f < n) (k:Nat):rs ps' qs' f k = rs ps qs f k:=by
 induction k with
 | zero=>rfl
 | succ k ih =>
  show pm.rnd ps' qs' (rs ps' qs' f k) k = pm.rnd ps qs (rs ps qs f k) k
  rw [ih]
  unfold pm.rnd
  split
  ·rename_i hk
   obtain ⟨z,hz,_,e⟩:=(qgc hp hq hf0 hf1 k).at_ hk
   rw [e,Int.toNat_natCast,h1 z hz,h2 z hz]
  ·rfl
def reach (ps qs:List Int) (f:Int):List Int:=rs ps qs f ps.length
theorem qiy {ps qs:List Int} {n:Nat} (hn:ps.length = n) {f:Int} {k:Nat} (hk:k<=n) (h:(rs ps qs f k).length<=k):rs ps qs f k = reach ps qs f:=by
 unfold reach;rw [hn];exact (ql9 ps qs f h hk).symm
theorem qgd {xs ys:List Int} (h:Ok xs) (h':Ok ys) (e:xs.length = ys.length) {f:Int} (hf0:0<=f) (hf1:f < xs.length):reach (ext xs) (ext ys) f = reach xs ys f:=by
 have hl:=h.len
 have hy:Maps xs.length ys:=by rw [e];exact h'.maps
 unfold reach
 rw [qc,qvq (ps':=ext xs) (qs':=ext ys) h.maps hy (fun i hi=>by rw [j5 (by omega),if_pos hi]) (fun i hi=>by rw [j5 (by omega),if_pos (by omega)]) hf0 hf1]
 exact ql9 _ _ _ ((qgc h.maps hy hf0 hf1 _).len) hl
def zh (xs ys:List Int):Bool:=qd3 xs ys && decide (0 < xs.length) && decide ((reach xs ys 0).length = xs.length)
def flagsOf (l:List Int):List Bool:=qvc fun j=>decide ((j:Int) ∈ l)
theorem qdt {l:List Int} {z:Nat} (hz:¬ (z:Int) ∈ l):(flagsOf l).set z true = flagsOf (add1 l (z:Int)):=by
 refine qn2 _ _ fun j hj=>?_
 unfold add1
 rw [if_neg hz]
 by_cases hjz:j = z
 ·subst hjz;simp
 ·have:¬ ((j:Int) = (z:Int)):=by omega
  simp [hjz,this]
end Go.Proofs.Ytcdclihinmdgiaa.pm

namespace Go.Proofs.Ytcdclihinmdgiaa.pm
open arr inv permOf
set_option linter.unusedVariables false
set_option maxRecDepth 100000
def cy (ps:List Int) (f:Int):Nat->Int->List Int->List Int
 | 0,_,acc=>acc
 | m + 1,x,acc=>if x = f then acc else cy ps f m (ps.getD x.toNat 0) (acc ++ [x])
structure Bij (n:Nat) (ps:List Int):Prop where
 maps:Maps n ps
 inj:∀ i j:Nat,i < n->j < n->ps.getD i 0 = ps.getD j 0->i = j
theorem Ok.bij {xs:List Int} (h:Ok xs):Bij xs.length xs:=⟨h.maps,h.inj⟩
theorem qff {l:List Int} {i:Nat} (h:i < l.length):l.getD i 0 ∈ l:=by
 simp [List.getD,List.getElem?_eq_getElem h]
theorem qnk {l:List Int} {x:Int} (h:x ∈ l):∃ i,i < l.length/\l.getD i 0 = x:=by
 obtain ⟨i,hi,e⟩:=List.getElem_of_mem h
 exact ⟨i,hi,by simp [List.getD,List.getElem?_eq_getElem hi,e]⟩
theorem qhl {l:List Int} (h:l.Nodup) {i j:Nat} (hi:i < l.length) (hj:j < l.length) (e:l.getD i 0 = l.getD j 0):i = j:=by
 simp only [List.getD,List.getElem?_eq_getElem hi,List.getElem?_eq_getElem hj,Option.getD_some] at e
 have hp:=List.pairwise_iff_getElem.1 h
 rcases Nat.lt_trichotomy i j with q | q | q
 ·exact absurd e (hp i j hi hj q)
 ·exact q
 ·exact absurd e.symm (hp j i hj hi q)
structure Cs (n:Nat) (ps:List Int) (k:Nat) (out:List (List Int)):Prop where
 inn:In n out.flatten
 back:∀ y:Nat,y < n->ps.getD y 0 ∈ out.flatten->(y:Int) ∈ out.flatten
 all:∀ i:Nat,i < k->(i:Int) ∈ out.flatten
 len:out.length<=k
end Go.Proofs.Ytcdclihinmdgiaa.pm

namespace Go.Proofs.Ytcdclihinmdgiaa.pm
set_option linter.unusedVariables false
set_option maxRecDepth 100000
def ins (x:Int) (l:List Int) (k:Nat):List Int:=l.take k ++ x :: l.drop k
end Go.Proofs.Ytcdclihinmdgiaa.pm
