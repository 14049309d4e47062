import Derived.Test.YtgcnemkhppkkcaaV04
import Derived.Test.YtgcnemkhppkkcaaV11
import Derived.Test.YtgcnemkhppkkcaaV10
namespace Go.Proofs.Ytgcnemkhppkkcaa.cy
open Go.ChangeShapes Go.WideShapes Go.ChangeAt Go.RowKit
open mem ints arr pm sf mat gl Go.Proofs.Ytgcnemkhppkkcaa.lp
set_option linter.unusedVariables false
set_option maxRecDepth 100000
structure Fr (N:Nat) (bs:Nat->Nat) (w w':World):Prop where
 os:w'.os = w.os
 tape:w'.tape = w.tape
 output:w'.output = w.output
 size:w.heap.size<=w'.heap.size
 block:∀ k,k < w.heap.size->(∀ i,i < N->k ≠ bs i)->w'.heap[k]? = w.heap[k]?
theorem Fr.below {N:Nat} {bs:Nat->Nat} {w w':World} (h:Below w.heap.size w w'):Fr N bs w w':=⟨h.os,h.tape,h.output,h.size,fun k hk _=>h.block k hk⟩
theorem Fr.trans {N:Nat} {bs:Nat->Nat} {a b c:World} (h:Fr N bs a b) (k:Fr N bs b c):Fr N bs a c :=
 ⟨k.os.trans h.os,k.tape.trans h.tape,k.output.trans h.output,Nat.le_trans h.size k.size,fun q h1 h2=>(k.block q (Nat.lt_of_lt_of_le h1 h.size) h2).trans (h.block q h1 h2)⟩
theorem Fr.set_ {N:Nat} {bs:Nat->Nat} {w w':World} (h:Fr N bs w w') {m:Nat} (hm:m < N) (off:Nat) (v:Value):Fr N bs w (w'.setCell ⟨bs m,off,none⟩ v) :=
 ⟨h.os,h.tape,h.output,by simpa [World.setCell] using h.size,fun k h1 h2=>(Below.heap_setCell _ _ _ _ (by intro e;exact h2 m hm e)).trans (h.block k h1 h2)⟩
theorem Fr.new_ {N:Nat} {bs:Nat->Nat} {w w':World} (h:Fr N bs w w') {g:Nat} (hg:w.heap.size<=g) (off:Nat) (v:Value):Fr N bs w (w'.setCell ⟨g,off,none⟩ v) :=
 ⟨h.os,h.tape,h.output,by simpa [World.setCell] using h.size,fun k h1 h2=>(Below.heap_setCell _ _ _ _ (by intro e;have e2:k = g:=e;omega)).trans (h.block k h1 h2)⟩
theorem Rm.other {w:World} {B H0 N g:Nat} {A:Option Addr} {rr:List (List Int)} {bs:Nat->Nat} {ab bl:List Int} {M:List Bool} (h:Rm w B H0 A N rr bs ab bl M) (h1:∀ i,i < N->bs i ≠ g) (h2:H0<=g) (h3:∀ q,A = some ⟨q,0,none⟩->q ≠ g) (off:Nat) (v:Value):Rm (w.setCell ⟨g,off,none⟩ v) B H0 A N rr bs ab bl M:=by
 refine ⟨fun hN=>?_,fun i xs hx=>?_,h.ge,h.inj,h.len,h.low⟩
 ·obtain ⟨q,e,q0,q1,q2,q3⟩:=h.ptr hN
  refine ⟨q,e,q0,by simpa [World.setCell] using q1,q2,fun i hi=>?_⟩
  rw [World.cell?_setCell_other w _ _ _ (by intro e2;injection e2 with e3;exact h3 q e e3.symm)]
  exact q3 i hi
 ·obtain ⟨P,c,q1,q2⟩:=h.box i xs hx
  exact ⟨P,c,q1.other (h1 i (by have:=(List.getElem?_eq_some_iff.1 hx).1;have:=h.len;omega)) v,q2.keep ((Below.refl H0 w).setCell h2 v) (Nat.le_refl _)⟩
theorem Rm.lows {w w':World} {B H0 N top:Nat} {A:Option Addr} {rr:List (List Int)} {bs:Nat->Nat} {ab bl:List Int} {M:List Bool} (h:Rm w B H0 A N rr bs ab bl M) (hl:∀ q,q < top->w'.heap[q]? = w.heap[q]?) (hs:w.heap.size<=w'.heap.size) (ha:∀ q,A = some ⟨q,0,none⟩->q < top) (hb:∀ i,i < N->bs i < top) (hH:H0<=top):Rm w' B H0 A N rr bs ab bl M:=by
 refine ⟨fun hN=>?_,fun i xs hx=>?_,h.ge,h.inj,h.len,h.low⟩
 ·obtain ⟨q,e,q0,q1,q2,q3⟩:=h.ptr hN
  refine ⟨q,e,q0,by omega,q2,fun i hi=>?_⟩
  rw [World.cell?_of_block (w:=w) (a:=⟨q,i,none⟩) (hl q (ha q e))]
  exact q3 i hi
 ·obtain ⟨P,c,q1,q2⟩:=h.box i xs hx
  have hi:i < N:=by have:=(List.getElem?_eq_some_iff.1 hx).1;have:=h.len;omega
  exact ⟨P,c,(hl _ (hb i hi)).trans q1,Row.lows q2 hs (fun k hk=>hl k (by omega))⟩
structure Cw (w wr:World) (B H0:Nat) (A:Option Addr) (N:Nat) (rr:List (List Int)) (bs:Nat->Nat) (ab bl:List Int) (S M:List Bool) (l h:Nat):Prop where
 rm:Rm wr B H0 A N rr bs ab bl M
 box:Arr wr (w.heap.size + 1) [.int .i64 l,.int .i64 h] 96
 res:Arr wr w.heap.size [.int .i64 0,.int .i64 0] 96
 cnt:h + cnt S = cnt M
 fr:Fr N bs w wr
 far:∀ i,i < N->bs i < w.heap.size
 frA:∀ q,A = some ⟨q,0,none⟩->q < w.heap.size
 frH:H0<=w.heap.size
theorem Cw.mark {w wr:World} {B H0 N l h c:Nat} {A:Option Addr} {rr:List (List Int)} {bs:Nat->Nat} {ab bl:List Int} {S M:List Bool} (k:Cw w wr B H0 A N rr bs ab bl S M l h) (hc:c < N) (hM:M.length = N) (hf:M[c]? = some false) :
  (∃ P q m,Arr wr (bs c) (rowC P q m (ptrV bs (at_ ab c)) (ptrV bs (at_ bl c)) false) 128) ∧
  Arr (wr.setCell ⟨bs c,3,none⟩ (.bool true)) (w.heap.size + 1) [.int .i64 l,.int .i64 h] 96 ∧
  (∃ P q m,Arr ((wr.setCell ⟨bs c,3,none⟩ (.bool true)).setCell ⟨w.heap.size + 1,1,none⟩ (.int .i64 ((h:Int) + 1))) (bs c) (rowC P q m (ptrV bs (at_ ab c)) (ptrV bs (at_ bl c)) true) 128) ∧
  Cw w ((wr.setCell ⟨bs c,3,none⟩ (.bool true)).setCell ⟨w.heap.size + 1,1,none⟩ (.int .i64 ((h:Int) + 1))) B H0 A N rr bs ab bl S (M.set c true) l (h + 1):=by
 have eh:((h:Int) + 1) = ((h + 1:Nat):Int):=by omega
 rw [eh]
 have hb:=k.far c hc
 obtain ⟨xs,hx⟩:∃ xs,rr[c]? = some xs:=⟨_,List.getElem?_eq_getElem (by have:=k.rm.len;omega)⟩
 obtain ⟨P,q,b1,_⟩:=k.rm.box c xs hx
 have hv:M.getD c false = false:=by simp [List.getD,hf]
 rw [hv] at b1
 have m1:=k.rm.mark hc hM
 have m2:=m1.other (g:=w.heap.size + 1) (fun i hi=>by have:=k.far i hi;omega) (by have:=k.frH;omega) (fun q e=>by have:=k.frA q e;omega) 1 (.int .i64 ((h + 1:Nat):Int))
 obtain ⟨P2,q2,b2,_⟩:=m2.box c xs hx
 have hv2:(M.set c true).getD c false = true:=by simp [List.getD,hM,hc]
 rw [hv2] at b2
 have e1:Arr (wr.setCell ⟨bs c,3,none⟩ (.bool true)) (w.heap.size + 1) [.int .i64 l,.int .i64 h] 96:=k.box.other (by omega) _
 refine ⟨⟨P,_,q,b1⟩,e1,⟨P2,_,q2,b2⟩,m2,?_,?_,by rw [cnt_set hf];have:=k.cnt;omega,(k.fr.set_ hc 3 _).new_ (by omega) 1 _,k.far,k.frA,k.frH⟩
 ·exact e1.set_ 1 _
 ·exact (k.res.other (by omega) _).other (by omega) _
def hOf (E:Nat) (w:World):Nat:=(intOf ((w.cell? ⟨E,1,none⟩).getD undef)).toNat
theorem hOf_at {E l h:Nat} {w:World} (k:Arr w E [.int .i64 l,.int .i64 h] 96):hOf E w = h:=by
 have:=k.cell (k:=1) rfl
 simp [hOf,this,intOf]
set_option maxHeartbeats 4000000 in
theorem cyl_any (w:World) (B H0 N r:Nat) (A:Option Addr) (rr:List (List Int)) (bs:Nat->Nat) (ab bl:List Int) (S:List Bool) (xs:List Int) (hm:Rm w B H0 A N rr bs ab bl S) (hr:rr[r]? = some xs) (hS:S.length = N) (hc:Closed N ab (on S)) (hf:S[r]? = some false)
  (hi:Inj N ab) (hb:Back N ab bl) (hN:N<=24) (hx:xs.length<=24) :
  Calls sqp.prog 91 #[.pointer (some ⟨bs r,0,none⟩)] w fun e w'=>e = .returned (.agg #[.int .i64 xs.length,.int .i64 ((cnt (clos N ab S r) - cnt S:Nat):Int)])/\Rm w' B H0 A N rr bs ab bl (clos N ab S r)/\Fr N bs w w':=by
 have hrN:r < N:=by have:=(List.getElem?_eq_some_iff.1 hf).1;omega
 have RM:=Lib.hid hm
 obtain ⟨P,c,hbox,hrow⟩:=hm.box r xs hr
 have FAR:Hid (∀ i,i < N->bs i < w.heap.size):=Lib.hid (fun i hi=>hm.lt hi)
 have FRA:Hid (∀ q,A = some ⟨q,0,none⟩->q < w.heap.size):=Lib.hid (fun q e=>by
  obtain ⟨g,e2,_,h2,_⟩:=hm.ptr (by omega)
  rw [e2] at e;injection e with e;injection e with e;omega)
 have FRH:Hid (H0<=w.heap.size):=Lib.hid hrow.2.1
 have US:=Lib.hid (Up.start hS hrN hc)
 have HI:=Lib.hid hi;have HB:=Lib.hid hb;have HC:=Lib.hid hc
 have PR:Hid (∀ k:Nat,ptrV bs (k:Int) = .pointer (some ⟨bs k,0,none⟩)):=Lib.hid (fun k=>ptrV_yes bs k)
 have c0:=(hbox.alloc (.cells #[.int .i64 0,.int .i64 0] 96)).cell (k:=0) rfl
 have CW0:Hid (∀ W,W = ((w.alloc (.cells #[.int .i64 0,.int .i64 0] 96)).alloc (.cells #[.int .i64 xs.length,.int .i64 0] 96))->Cw w W B H0 A N rr bs ab bl S S xs.length 0):=Lib.hid (fun W e=>by
  have b0:Below w.heap.size w W:=by rw [e];exact ((Below.refl _ _).alloc (Nat.le_refl _) _).alloc (by simp) _
  refine ⟨RM.out.keep b0,by rw [e];exact Arr.new _ _ _ (by simp),by rw [e];exact (Arr.new w _ _ rfl).alloc _,by omega,Fr.below b0,FAR.out,FRA.out,FRH.out⟩)
 have XR:=Lib.hid hr
 clear hm hbox hrow hi hb hc hf hr
 go_enter sqp.func91,sqp.ntmps91
 go_wp2
 go_loopw [4] (fun x wr=>∃ (M:List Bool) (cur:Int) (h:Nat),x = ptrV bs cur/\Cw w wr B H0 A N rr bs ab bl S M xs.length h/\Up N ab S r M cur) (fun x wr=>N - hOf (w.heap.size + 1) wr)
 case atStart=>exact ⟨S,r,0,(PR.out r).symm,CW0.out _ rfl,US.out⟩
 case round =>
  obtain ⟨M,cur,h,rfl,hcw,hup⟩:=hrel
  have CW:=Lib.hid hcw;have UP:=Lib.hid hup;clear hcw hup
  have mm:=hOf_at CW.out.box
  have hle:h<=N:=by have:=CW.out.cnt;have:=cnt_le M;have:=UP.out.len;omega
  by_cases hneg:cur < 0
  ·have PN:ptrV bs cur = .pointer none:=ptrV_no hneg
   rw [PN]
   have DN:=Lib.hid (UP.out.done (.inl hneg))
   clear hneg PN mm
   obtain ⟨P9,c9,B9,_⟩:=CW.out.rm.box r xs XR.out
   have r2:=B9.cell (k:=2) rfl
   have WD:=Lib.hid (DN.out.dw HI.out HB.out HC.out hrN)
   clear B9 UP DN
   go_wp2
   clear r2
   go_loopw [5] (fun x wr=>∃ (M:List Bool) (cur:Int) (h:Nat),x = ptrV bs cur/\Cw w wr B H0 A N rr bs ab bl S M xs.length h/\Dw N ab S r M cur) (fun x wr=>N - hOf (w.heap.size + 1) wr)
   case atStart=>exact ⟨M,_,h,rfl,CW.out,WD.out⟩
   case round =>
    obtain ⟨M,cur,h,rfl,hcw,hup⟩:=hrel
    have CW:=Lib.hid hcw;have UP:=Lib.hid hup;clear hcw hup
    have mm:=hOf_at CW.out.box
    have hle:h<=N:=by have:=CW.out.cnt;have:=cnt_le M;have:=UP.out.len;omega
    by_cases hneg:cur < 0
    ·have PN:ptrV bs cur = .pointer none:=ptrV_no hneg
     rw [PN]
     have DN:=Lib.hid (UP.out.done (.inl hneg))
     clear hneg PN mm
     have b0:=CW.out.box
     have e0:Arr wr (w.heap.size + 1) [.int .i64 xs.length,.int .i64 h] 96:=b0
     have d0:=CW.out.res
     have HE:Hid (M = clos N ab S r):=DN
     have HH:Hid (h = cnt M - cnt S):=Lib.hid (by have:=CW.out.cnt;omega)
     have FIN:=Lib.hid ((CW.out.rm.other (g:=w.heap.size) (fun i hi=>by have:=CW.out.far i hi;omega) CW.out.frH (fun q e=>by have:=CW.out.frA q e;omega) 0 (.int .i64 xs.length)).other (g:=w.heap.size) (fun i hi=>by have:=CW.out.far i hi;omega) CW.out.frH (fun q e=>by have:=CW.out.frA q e;omega) 1 (.int .i64 h))
     have FRI:=Lib.hid ((CW.out.fr.new_ (Nat.le_refl w.heap.size) 0 (.int .i64 xs.length)).new_ (Nat.le_refl w.heap.size) 1 (.int .i64 h))
     have g0:=d0.cell (k:=0) rfl
     have g1:=d0.cell (k:=1) rfl
     have h0:=e0.cell (k:=0) rfl
     have h1:=e0.cell (k:=1) rfl
     have fg0:=d0.frozen 0
     have NN:Hid (Arr ((wr.setCell ⟨w.heap.size,0,none⟩ (.int .i64 xs.length)).setCell ⟨w.heap.size,1,none⟩ (.int .i64 h)) w.heap.size [.int .i64 xs.length,.int .i64 h] 96):=Lib.hid ((d0.set_ 0 (.int .i64 xs.length)).set_ 1 (.int .i64 h))
     have i1:=(d0.set_ 0 (.int .i64 xs.length)).cell (k:=1) rfl
     have fi1:=(d0.set_ 0 (.int .i64 xs.length)).frozen 1
     clear b0 e0 d0 CW UP DN
     go_wp2
     exact bodyPost_ret (v:=.agg #[.int .i64 xs.length,.int .i64 h]) (results_cell_row rfl _ _ w.heap.size 96 #[.int .i64 xs.length,.int .i64 h] (0,0) _ rfl NN.out sqp.underlying96 rfl (sizeCy _ _)) rfl ⟨by rw [HH.out,<-HE.out],by rw [<-HE.out];exact FIN.out,FRI.out⟩
    ·obtain ⟨k,rfl⟩:∃ k:Nat,cur = k:=⟨cur.toNat,by omega⟩
     have hkN:k < N:=by have:=UP.out.hi;omega
     rw [PR.out]
     cases hMk:M[k]? with
     | none=>have:=UP.out.len;rw [List.getElem?_eq_none_iff] at hMk;omega
     | some b =>
      obtain ⟨ys,hy⟩:∃ ys,rr[k]? = some ys:=⟨_,List.getElem?_eq_getElem (by have:=CW.out.rm.len;omega)⟩
      obtain ⟨P1,c1,B1,_⟩:=CW.out.rm.box k ys hy
      have hv:M.getD k false = b:=by simp [List.getD,hMk]
      rw [hv] at B1
      have k3:=B1.cell (k:=3) rfl
      cases b with
      | true =>
       have DN:=Lib.hid (UP.out.done (.inr ⟨k,rfl,hMk⟩))
       clear hMk hv hy mm B1
       have b0:=CW.out.box
       have e0:Arr wr (w.heap.size + 1) [.int .i64 xs.length,.int .i64 h] 96:=b0
       have d0:=CW.out.res
       have HE:Hid (M = clos N ab S r):=DN
       have HH:Hid (h = cnt M - cnt S):=Lib.hid (by have:=CW.out.cnt;omega)
       have FIN:=Lib.hid ((CW.out.rm.other (g:=w.heap.size) (fun i hi=>by have:=CW.out.far i hi;omega) CW.out.frH (fun q e=>by have:=CW.out.frA q e;omega) 0 (.int .i64 xs.length)).other (g:=w.heap.size) (fun i hi=>by have:=CW.out.far i hi;omega) CW.out.frH (fun q e=>by have:=CW.out.frA q e;omega) 1 (.int .i64 h))
       have FRI:=Lib.hid ((CW.out.fr.new_ (Nat.le_refl w.heap.size) 0 (.int .i64 xs.length)).new_ (Nat.le_refl w.heap.size) 1 (.int .i64 h))
       have g0:=d0.cell (k:=0) rfl
       have g1:=d0.cell (k:=1) rfl
       have h0:=e0.cell (k:=0) rfl
       have h1:=e0.cell (k:=1) rfl
       have fg0:=d0.frozen 0
       have NN:Hid (Arr ((wr.setCell ⟨w.heap.size,0,none⟩ (.int .i64 xs.length)).setCell ⟨w.heap.size,1,none⟩ (.int .i64 h)) w.heap.size [.int .i64 xs.length,.int .i64 h] 96):=Lib.hid ((d0.set_ 0 (.int .i64 xs.length)).set_ 1 (.int .i64 h))
       have i1:=(d0.set_ 0 (.int .i64 xs.length)).cell (k:=1) rfl
       have fi1:=(d0.set_ 0 (.int .i64 xs.length)).frozen 1
       clear b0 e0 d0 CW UP DN
       go_wp2
       exact bodyPost_ret (v:=.agg #[.int .i64 xs.length,.int .i64 h]) (results_cell_row rfl _ _ w.heap.size 96 #[.int .i64 xs.length,.int .i64 h] (0,0) _ rfl NN.out sqp.underlying96 rfl (sizeCy _ _)) rfl ⟨by rw [HH.out,<-HE.out],by rw [<-HE.out];exact FIN.out,FRI.out⟩
      | false =>
       obtain ⟨m1,m2,m3,m4⟩:=CW.out.mark hkN UP.out.len hMk
       obtain ⟨Q3,q3,p3,B3⟩:=m3
       have f3:=B1.frozen 3
       have e1:=m2.cell (k:=1) rfl
       have fe1:=m2.frozen 1
       have l1:=B3.cell (k:=2) rfl
       have NC:=Lib.hid m4
       have NU:=Lib.hid (UP.out.step HB.out hMk)
       have ME:=hOf_at m4.box
       clear hMk hv hy m1 m2 m4 B1 B3 hneg
       go_wp2
       go_roundw
       case rel=>exact ⟨M.set k true,at_ bl k,h + 1,rfl,NC.out,NU.out⟩
       case measure=>rw [ME,mm];have:=NC.out.cnt;have:=cnt_le (M.set k true);have:=NU.out.len;omega
  ·obtain ⟨k,rfl⟩:∃ k:Nat,cur = k:=⟨cur.toNat,by omega⟩
   have hkN:k < N:=by have:=UP.out.hi;omega
   rw [PR.out]
   cases hMk:M[k]? with
   | none=>have:=UP.out.len;rw [List.getElem?_eq_none_iff] at hMk;omega
   | some b =>
    obtain ⟨ys,hy⟩:∃ ys,rr[k]? = some ys:=⟨_,List.getElem?_eq_getElem (by have:=CW.out.rm.len;omega)⟩
    obtain ⟨P1,c1,B1,_⟩:=CW.out.rm.box k ys hy
    have hv:M.getD k false = b:=by simp [List.getD,hMk]
    rw [hv] at B1
    have k3:=B1.cell (k:=3) rfl
    cases b with
    | true =>
     have DN:=Lib.hid (UP.out.done (.inr ⟨k,rfl,hMk⟩))
     clear hMk hv hy mm B1
     obtain ⟨P9,c9,B9,_⟩:=CW.out.rm.box r xs XR.out
     have r2:=B9.cell (k:=2) rfl
     have WD:=Lib.hid (DN.out.dw HI.out HB.out HC.out hrN)
     clear B9 UP DN
     go_wp2
     clear r2
     go_loopw [5] (fun x wr=>∃ (M:List Bool) (cur:Int) (h:Nat),x = ptrV bs cur/\Cw w wr B H0 A N rr bs ab bl S M xs.length h/\Dw N ab S r M cur) (fun x wr=>N - hOf (w.heap.size + 1) wr)
     case atStart=>exact ⟨M,_,h,rfl,CW.out,WD.out⟩
     case round =>
      obtain ⟨M,cur,h,rfl,hcw,hup⟩:=hrel
      have CW:=Lib.hid hcw;have UP:=Lib.hid hup;clear hcw hup
      have mm:=hOf_at CW.out.box
      have hle:h<=N:=by have:=CW.out.cnt;have:=cnt_le M;have:=UP.out.len;omega
      by_cases hneg:cur < 0
      ·have PN:ptrV bs cur = .pointer none:=ptrV_no hneg
       rw [PN]
       have DN:=Lib.hid (UP.out.done (.inl hneg))
       clear hneg PN mm
       have b0:=CW.out.box
       have e0:Arr wr (w.heap.size + 1) [.int .i64 xs.length,.int .i64 h] 96:=b0
       have d0:=CW.out.res
       have HE:Hid (M = clos N ab S r):=DN
       have HH:Hid (h = cnt M - cnt S):=Lib.hid (by have:=CW.out.cnt;omega)
       have FIN:=Lib.hid ((CW.out.rm.other (g:=w.heap.size) (fun i hi=>by have:=CW.out.far i hi;omega) CW.out.frH (fun q e=>by have:=CW.out.frA q e;omega) 0 (.int .i64 xs.length)).other (g:=w.heap.size) (fun i hi=>by have:=CW.out.far i hi;omega) CW.out.frH (fun q e=>by have:=CW.out.frA q e;omega) 1 (.int .i64 h))
       have FRI:=Lib.hid ((CW.out.fr.new_ (Nat.le_refl w.heap.size) 0 (.int .i64 xs.length)).new_ (Nat.le_refl w.heap.size) 1 (.int .i64 h))
       have g0:=d0.cell (k:=0) rfl
       have g1:=d0.cell (k:=1) rfl
       have h0:=e0.cell (k:=0) rfl
       have h1:=e0.cell (k:=1) rfl
       have fg0:=d0.frozen 0
       have NN:Hid (Arr ((wr.setCell ⟨w.heap.size,0,none⟩ (.int .i64 xs.length)).setCell ⟨w.heap.size,1,none⟩ (.int .i64 h)) w.heap.size [.int .i64 xs.length,.int .i64 h] 96):=Lib.hid ((d0.set_ 0 (.int .i64 xs.length)).set_ 1 (.int .i64 h))
       have i1:=(d0.set_ 0 (.int .i64 xs.length)).cell (k:=1) rfl
       have fi1:=(d0.set_ 0 (.int .i64 xs.length)).frozen 1
       clear b0 e0 d0 CW UP DN
       go_wp2
       exact bodyPost_ret (v:=.agg #[.int .i64 xs.length,.int .i64 h]) (results_cell_row rfl _ _ w.heap.size 96 #[.int .i64 xs.length,.int .i64 h] (0,0) _ rfl NN.out sqp.underlying96 rfl (sizeCy _ _)) rfl ⟨by rw [HH.out,<-HE.out],by rw [<-HE.out];exact FIN.out,FRI.out⟩
      ·obtain ⟨k,rfl⟩:∃ k:Nat,cur = k:=⟨cur.toNat,by omega⟩
       have hkN:k < N:=by have:=UP.out.hi;omega
       rw [PR.out]
       cases hMk:M[k]? with
       | none=>have:=UP.out.len;rw [List.getElem?_eq_none_iff] at hMk;omega
       | some b =>
        obtain ⟨ys,hy⟩:∃ ys,rr[k]? = some ys:=⟨_,List.getElem?_eq_getElem (by have:=CW.out.rm.len;omega)⟩
        obtain ⟨P1,c1,B1,_⟩:=CW.out.rm.box k ys hy
        have hv:M.getD k false = b:=by simp [List.getD,hMk]
        rw [hv] at B1
        have k3:=B1.cell (k:=3) rfl
        cases b with
        | true =>
         have DN:=Lib.hid (UP.out.done (.inr ⟨k,rfl,hMk⟩))
         clear hMk hv hy mm B1
         have b0:=CW.out.box
         have e0:Arr wr (w.heap.size + 1) [.int .i64 xs.length,.int .i64 h] 96:=b0
         have d0:=CW.out.res
         have HE:Hid (M = clos N ab S r):=DN
         have HH:Hid (h = cnt M - cnt S):=Lib.hid (by have:=CW.out.cnt;omega)
         have FIN:=Lib.hid ((CW.out.rm.other (g:=w.heap.size) (fun i hi=>by have:=CW.out.far i hi;omega) CW.out.frH (fun q e=>by have:=CW.out.frA q e;omega) 0 (.int .i64 xs.length)).other (g:=w.heap.size) (fun i hi=>by have:=CW.out.far i hi;omega) CW.out.frH (fun q e=>by have:=CW.out.frA q e;omega) 1 (.int .i64 h))
         have FRI:=Lib.hid ((CW.out.fr.new_ (Nat.le_refl w.heap.size) 0 (.int .i64 xs.length)).new_ (Nat.le_refl w.heap.size) 1 (.int .i64 h))
         have g0:=d0.cell (k:=0) rfl
         have g1:=d0.cell (k:=1) rfl
         have h0:=e0.cell (k:=0) rfl
         have h1:=e0.cell (k:=1) rfl
         have fg0:=d0.frozen 0
         have NN:Hid (Arr ((wr.setCell ⟨w.heap.size,0,none⟩ (.int .i64 xs.length)).setCell ⟨w.heap.size,1,none⟩ (.int .i64 h)) w.heap.size [.int .i64 xs.length,.int .i64 h] 96):=Lib.hid ((d0.set_ 0 (.int .i64 xs.length)).set_ 1 (.int .i64 h))
         have i1:=(d0.set_ 0 (.int .i64 xs.length)).cell (k:=1) rfl
         have fi1:=(d0.set_ 0 (.int .i64 xs.length)).frozen 1
         clear b0 e0 d0 CW UP DN
         go_wp2
         exact bodyPost_ret (v:=.agg #[.int .i64 xs.length,.int .i64 h]) (results_cell_row rfl _ _ w.heap.size 96 #[.int .i64 xs.length,.int .i64 h] (0,0) _ rfl NN.out sqp.underlying96 rfl (sizeCy _ _)) rfl ⟨by rw [HH.out,<-HE.out],by rw [<-HE.out];exact FIN.out,FRI.out⟩
        | false =>
         obtain ⟨m1,m2,m3,m4⟩:=CW.out.mark hkN UP.out.len hMk
         obtain ⟨Q3,q3,p3,B3⟩:=m3
         have f3:=B1.frozen 3
         have e1:=m2.cell (k:=1) rfl
         have fe1:=m2.frozen 1
         have l1:=B3.cell (k:=2) rfl
         have NC:=Lib.hid m4
         have NU:=Lib.hid (UP.out.step HB.out hMk)
         have ME:=hOf_at m4.box
         clear hMk hv hy m1 m2 m4 B1 B3 hneg
         go_wp2
         go_roundw
         case rel=>exact ⟨M.set k true,at_ bl k,h + 1,rfl,NC.out,NU.out⟩
         case measure=>rw [ME,mm];have:=NC.out.cnt;have:=cnt_le (M.set k true);have:=NU.out.len;omega
    | false =>
     obtain ⟨m1,m2,m3,m4⟩:=CW.out.mark hkN UP.out.len hMk
     obtain ⟨Q3,q3,p3,B3⟩:=m3
     have f3:=B1.frozen 3
     have e1:=m2.cell (k:=1) rfl
     have fe1:=m2.frozen 1
     have l1:=B3.cell (k:=1) rfl
     have NC:=Lib.hid m4
     have NU:=Lib.hid (UP.out.step HI.out hMk)
     have ME:=hOf_at m4.box
     clear hMk hv hy m1 m2 m4 B1 B3 hneg
     go_wp2
     go_roundw
     case rel=>exact ⟨M.set k true,at_ ab k,h + 1,rfl,NC.out,NU.out⟩
     case measure=>rw [ME,mm];have:=NC.out.cnt;have:=cnt_le (M.set k true);have:=NU.out.len;omega
end Go.Proofs.Ytgcnemkhppkkcaa.cy

namespace Go.Proofs.Ytgcnemkhppkkcaa.cy
open Go.ChangeShapes Go.WideShapes Go.ChangeAt Go.RowKit
open mem ints arr pm sf mat gl Go.Proofs.Ytgcnemkhppkkcaa.lp
set_option linter.unusedVariables false
set_option maxRecDepth 100000
noncomputable def cyF (r u:List Int):List Cy:=if transB r u then cyL (abF (comm r u) u (cycF r)) (cycF r) else []
theorem cyF_yes {r u:List Int} (h:transB r u = true):cyF r u = cyL (abF (comm r u) u (cycF r)) (cycF r):=by simp [cyF,h]
theorem cyF_no {r u:List Int} (h:transB r u = false):cyF r u = []:=by simp [cyF,h]
theorem cyF_24 (r u:List Int):(cyF r u).length<=24:=by
 cases h:transB r u with
 | false=>rw [cyF_no h];simp
 | true =>
  have s:=cycF_rows h rfl
  rw [cyF_yes h]
  have:=(cyS_ok (ab_inj s.sf s.rw) (cycF r).length (Nat.le_refl _)).2.2
  have:=s.rw.len
  have:=s.sf.small
  unfold cyL
  omega
def CGives (L:List Cy) (w:World) (e:Ending) (w':World):Prop:=∃ A c,e = .returned (.slice A L.length c)/\Crow w' w.heap.size w'.heap.size A L.length L/\Below w.heap.size w w'
theorem Crow.of_own' {w:World} {base:Nat} {e:TypeId} {A:Option Addr} {n c:Nat} {L:List Cy} (hl:L.length = n) (h:w.ownsRow base e 2 (.slice A n c) n (V (fl L))):Crow w base w.heap.size A n L:=by
 refine ⟨hl,by simp [V,fl_len,hl],Nat.le_refl _,fun hn=>?_⟩
 have hlen:=h.1
 rcases h.2 with ⟨hv,h0⟩ | ⟨g,cap,cur,hv,hb,hh,r⟩
 ·omega
 ·injection hv with hA hn' hc'
  subst hA;subst hc'
  have hlt:g < w.heap.size:=by
   rcases Nat.lt_or_ge g w.heap.size with hlt | hge
   ·exact hlt
   ·rw [Array.getElem?_eq_none hge] at hh;cases hh
  refine ⟨g,0,rfl,hb,hlt,fun j hj=>?_⟩
  rw [Nat.zero_add]
  exact ⟨h.cellAt j (by omega),h.frozenAt j⟩
theorem Crow.low {w:World} {lo lo' hi n:Nat} {A:Option Addr} {L:List Cy} (h:Crow w lo hi A n L) (hl:lo'<=lo):Crow w lo' hi A n L:=⟨h.1,h.2.wider hl (Nat.le_refl _) h.2.2.1⟩
structure Cl (w1 wr:World) (B H0:Nat) (A:Option Addr) (N:Nat) (rr:List (List Int)) (bs:Nat->Nat) (ab bl:List Int) (v:Value) (k:Nat):Prop where
 rm:Rm wr B H0 A N rr bs ab bl (cyS ab rr k).1
 own:wr.ownsRow w1.heap.size 96 2 v (cyS ab rr k).2.length (V (fl (cyS ab rr k).2))
 fr:Fr N bs w1 wr
theorem own_Fr {w w':World} {base n N:Nat} {bs:Nat->Nat} {v:Value} {xs:List Value} {e:TypeId} {size:Nat} (h:w.ownsRow base e size v n xs) (hf:Fr N bs w w') (hb:∀ i,i < N->bs i < base):w'.ownsRow base e size v n xs:=by
 refine ⟨h.1,?_⟩
 rcases h.2 with h0 | ⟨g,cap,cur,h1,h2,h3,h4⟩
 ·exact .inl h0
 ·refine .inr ⟨g,cap,cur,h1,h2,?_,h4⟩
  have hlt:g < w.heap.size:=by
   rcases Nat.lt_or_ge g w.heap.size with q | q
   ·exact q
   ·rw [Array.getElem?_eq_none q] at h3;cases h3
  rw [hf.block g hlt (fun i hi e=>by have:=hb i hi;omega)]
  exact h3
theorem Fr.grown {N:Nat} {bs:Nat->Nat} {w W w':World} {base n:Nat} {v:Value} {xs:List Value} {e:TypeId} {size:Nat} (h:Fr N bs w W) (ho:W.ownsRow base e size v n xs) (hb:w.heap.size<=base) (hg:W.grownBy w' v.ownBlock):Fr N bs w w' :=
 ⟨hg.os.trans h.os,hg.tape.trans h.tape,hg.output.trans h.output,Nat.le_trans h.size hg.size,fun k h1 h2=>(hg.block k (Nat.lt_of_lt_of_le h1 h.size) (fun e=>by have:=(ho.lt k e.symm).1;omega)).trans (h.block k h1 h2)⟩
set_option maxHeartbeats 2000000 in
theorem cys_any (r u:List Int) (n:Nat) (w:World) (hs:Sf n r u) :
  Calls sqp.prog 61 #[.agg (V (gl (ext r) (ext u) n)).toArray] w (CGives (cyL (abF (comm r u) u (cycF r)) (cycF r)) w):=by
 have HS:=Lib.hid hs
 have L49:=gl_len (ext_len r) (ext_len u) n
 have SW:Hid (Sw n r u (cycF r)):=Lib.hid (cycF_rows (transB_iff.2 (by rw [hs.lr];exact hs)) hs.lr)
 have hn24:n<=24:=hs.small
 have G0:=Lib.hid (Arr.new w (V (gl (ext r) (ext u) n)) 62 rfl)
 clear hs
 go_enter sqp.func61,sqp.ntmps61
 go_wp2_with (refine wpList_load_row rfl 62 _ rfl w.heap.size rfl 62 (V (gl (ext r) (ext u) n)).toArray (0,0) _ G0.out sqp.underlying62 rfl (size49 L49) ?_)
 refine (rows_any r u n _ HS.out).mono ?_
 rintro e w1 ⟨A,c,H0,bs,rfl,b1,hrm⟩
 have B1:=Lib.hid (below1 _ _ b1)
 have hBH:w.heap.size + 1<=(w.alloc (.cells (V (gl (ext r) (ext u) n)).toArray 62)).heap.size:=by simp
 generalize (w.alloc (.cells (V (gl (ext r) (ext u) n)).toArray 62)).heap.size = B at *
 clear b1 G0
 have CI:Hid (∀ k,cyS (abF (comm r u) u (cycF r)) (cycF r) k = cyS (abF (comm r u) u (cycF r)) (cycF r) k):=Lib.hid (fun _=>rfl)
 generalize hL:cyL (abF (comm r u) u (cycF r)) (cycF r) = L at *
 have HLL:=Lib.hid hL;clear hL
 have LNn:Hid ((cycF r).length<=n):=Lib.hid SW.out.rw.len
 have INJ:=Lib.hid (ab_inj SW.out.sf SW.out.rw)
 generalize hN:(cycF r).length = N at *
 have LN:=Lib.hid hN;clear hN
 have hN24:N<=24:=by have:=LNn.out;omega
 have BK:=Lib.hid (back_ok INJ.out)
 generalize hrr:cycF r = rr at *
 clear hrr
 generalize hbl:backL (abF (comm r u) u rr) N = bl at *
 clear hbl
 generalize hab:abF (comm r u) u rr = ab at *
 clear hab CI
 have OK:Hid (∀ k,k<=N->(cyS ab rr k).1.length = N/\Closed N ab (on (cyS ab rr k).1)/\(cyS ab rr k).2.length<=k):=Lib.hid (fun k hk=>by have h:=cyS_ok (ab:=ab) (rr:=rr) (by rw [LN.out];exact INJ.out) k (by rw [LN.out];exact hk);rwa [LN.out] at h)
 have CL0:Hid (Cl w1 w1 B H0 A N rr bs ab bl (.slice none 0 0) 0):=Lib.hid ⟨by have h:=hrm;rw [cyS,LN.out];exact h,⟨rfl,.inl ⟨rfl,rfl⟩⟩,Fr.below (Below.refl _ _)⟩
 have BSL:Hid (∀ i,i < N->bs i < w1.heap.size):=Lib.hid (fun i hi=>hrm.lt hi)
 have hN0:0 < N:=by
  obtain ⟨i,xs,h1,_⟩:=SW.out.rw.has (y:=0) (by omega) (by have:=HS.out.pos;omega)
  have:=(List.getElem?_eq_some_iff.1 h1).1
  rw [LN.out] at this
  omega
 have PTR:Hid (∀ q,A = some ⟨q,0,none⟩->q < w1.heap.size):=Lib.hid (fun q e=>by
  obtain ⟨g,e2,_,h2,_⟩:=hrm.ptr hN0
  rw [e2] at e;injection e with e;injection e with e;omega)
 have HH0:Hid (H0<=w1.heap.size):=Lib.hid (by
  obtain ⟨P,c,_,q2⟩:=hrm.box 0 _ (List.getElem?_eq_getElem (by rw [LN.out];exact hN0))
  exact q2.2.1)
 have BSG:Hid (∀ i,i < N->w.heap.size<=bs i):=Lib.hid (fun i hi=>by have:=hrm.ge i hi;have:=hrm.low;omega)
 clear hrm
 obtain ⟨i0,hi0,hz0,hz1,hz2⟩:=info_parts infoCy
 go_wp2
 go_loopw [3,9] (fun v i wr=>∃ k:Nat,k<=N/\i = .int .i64 k/\Cl w1 wr B H0 A N rr bs ab bl v k) (fun _ i _=>N - (intOf i).toNat)
 case atStart=>exact ⟨0,Nat.zero_le _,rfl,CL0.out⟩
 case round =>
  obtain ⟨k,hk,rfl,hcl⟩:=hrel
  obtain ⟨C,cc,rfl⟩:=own_form hcl.own
  have CL:=Lib.hid hcl;clear hcl CL0
  have hsz:=CL.out.fr.size
  by_cases hlt:k < N
  ·obtain ⟨gp,rfl,_,hgl,hne,hcp⟩:=CL.out.rm.ptr (by omega)
   have hcp:=hcp k hlt
   obtain ⟨xs,hxk⟩:∃ xs,rr[k]? = some xs:=⟨_,List.getElem?_eq_getElem (by rw [LN.out];exact hlt)⟩
   have XK:=Lib.hid hxk
   obtain ⟨P1,c1,B1x,_⟩:=CL.out.rm.box k xs hxk
   have xl:xs.length<=24:=by have:=(SW.out.rw.way hxk).choose_spec.2.2.inn.len;omega
   have WID:Hid (rr.getD k [] = xs):=Lib.hid (by simp [List.getD,hxk])
   obtain ⟨ok1,ok2,ok3⟩:=OK.out k hk
   have OK2:=Lib.hid ok2
   cases hMk:(cyS ab rr k).1[k]? with
   | none=>rw [List.getElem?_eq_none_iff] at hMk;omega
   | some b =>
    have hv:(cyS ab rr k).1.getD k false = b:=by simp [List.getD,hMk]
    rw [hv] at B1x
    have k3:=B1x.cell (k:=3) rfl
    cases b with
    | true =>
     have NX:Hid (Cl w1 wr B H0 (some ⟨gp,0,none⟩) N rr bs ab bl (.slice C (cyS ab rr k).2.length cc) (k + 1)):=Lib.hid (by
      have e:=cyS_yes hMk
      exact ⟨by rw [e];exact CL.out.rm,by rw [e];exact CL.out.own,CL.out.fr⟩)
     clear hMk hv hxk B1x ok2 OK2
     generalize (cyS ab rr k).2.length = ll at *
     go_wp2
     go_roundw
     case rel=>exact ⟨k + 1,by omega,by go_num,NX.out⟩
     case measure=>simp [intOf];omega
    | false =>
     have MK:=Lib.hid hMk
     have EQ:=Lib.hid (cyS_no hMk)
     rw [LN.out,WID.out] at EQ
     have RMk:=Lib.hid CL.out.rm
     have OWk:=Lib.hid CL.out.own
     have FRk:=Lib.hid CL.out.fr
     have ok3':(cyS ab rr k).2.length<=24:=by omega
     clear hMk hv hxk B1x ok2
     generalize (cyS ab rr k).2 = Lk at *
     generalize (cyS ab rr k).1 = S at *
     go_wp2_with fail
     refine (cyl_any wr B H0 N k (some ⟨gp,0,none⟩) rr bs ab bl S xs RMk.out XK.out ok1 OK2.out MK.out INJ.out BK.out hN24 xl).mono ?_
     rintro e w5 ⟨rfl,rm5,f5⟩
     have RM5:=Lib.hid rm5
     have OW5:=Lib.hid (own_Fr OWk.out f5 BSL.out)
     have FR5:=Lib.hid (FRk.out.trans f5)
     have s5:=f5.size
     clear rm5 f5 RMk OWk FRk k3 hcp
     generalize hh:((cnt (clos N ab S k) - cnt S:Nat):Int) = hgt at *
     have FL:Hid (V (fl (Lk ++ [((xs.length:Int),hgt)])) = V (fl Lk) ++ [.int .i64 xs.length,.int .i64 hgt]):=Lib.hid (by rw [fl_app];simp [V,fl])
     clear hh
     go_wp2_with (at_builtin;refine wpList_append_lies (w5.alloc (.cells #[.int .i64 xs.length,.int .i64 hgt] 96)) rfl _ _ 93 rfl w1.heap.size 96 i0 _ 2 16 sqp.underlying93 hi0 hz0 hz1 hz2 rfl (by decide) _ Lk.length (V (fl Lk)) rfl (OW5.out.alloc _) ⟨w5.heap.size,0,none⟩ 1 1 [.int .i64 xs.length,.int .i64 hgt] rfl rfl ?hn ?h1 (by decide) ?c4 ?c5 ?c6 _ rfl ?_)
     case hn=>exact World.news_of_block (Arr.new w5 _ _ rfl)
     case h1=>intro q hq;simp at hq;rcases hq with rfl | rfl <;> rfl
     case c4=>unfold maxLen;omega
     case c5=>omega
     case c6=>simp;omega
     intro g7 cap7 w7 ho hg hb hlt7
     have FW:Fr N bs w1 (w5.alloc (.cells #[.int .i64 xs.length,.int .i64 hgt] 96)):=FR5.out.trans (Fr.below ((Below.refl _ _).alloc (Nat.le_refl _) _))
     have OWW:=OW5.out.alloc (.cells #[.int .i64 xs.length,.int .i64 hgt] 96)
     have F7:=Lib.hid (FW.grown OWW (Nat.le_refl _) hg)
     have R7:Hid (Rm w7 B H0 (some ⟨gp,0,none⟩) N rr bs ab bl (clos N ab S k)):=Lib.hid (by
      have hW:=RM5.out.keep ((Below.refl w5.heap.size w5).alloc (Nat.le_refl _) (.cells #[.int .i64 xs.length,.int .i64 hgt] 96))
      have lo:∀ q,q < w1.heap.size->w7.heap[q]? = (w5.alloc (.cells #[.int .i64 xs.length,.int .i64 hgt] 96)).heap[q]?:=fun q hq=>hg.block q (by have:=hW;simp;omega) (fun e=>by have:=(OWW.lt q e.symm).1;omega)
      exact hW.lows lo hg.size (fun q e=>PTR.out q e) BSL.out HH0.out)
     have NX:Hid (Cl w1 w7 B H0 (some ⟨gp,0,none⟩) N rr bs ab bl (.slice (some ⟨g7,0,none⟩) (Lk.length + 1) cap7) (k + 1)):=Lib.hid ⟨by rw [EQ.out];exact R7.out,by rw [EQ.out,FL.out];simpa using ho,F7.out⟩
     clear ho hg hb FW OWW RM5 OW5 FR5 EQ R7 F7
     go_wp2
     go_roundw
     case rel=>exact ⟨k + 1,by omega,by go_num,NX.out⟩
     case measure=>simp [intOf];omega
  ·obtain rfl:N = k:=by omega
   have HE:Hid (L = (cyS ab rr N).2):=Lib.hid (by rw [<-HLL.out,cyL,LN.out])
   have OW:=Lib.hid CL.out.own
   have BF:Hid (Below w.heap.size w wr):=Lib.hid ⟨CL.out.fr.os.trans B1.out.os,CL.out.fr.tape.trans B1.out.tape,CL.out.fr.output.trans B1.out.output,Nat.le_trans B1.out.size hsz,fun q hq=>(CL.out.fr.block q (by have:=B1.out.size;omega) (fun i hi e=>by have:=BSG.out i hi;omega)).trans (B1.out.block q hq)⟩
   clear CL HLL OK
   rw [<-HE.out] at OW ⊢
   clear HE
   go_wp2
   go_ret
   exact ⟨C,cc,rfl,(Crow.of_own' rfl OW.out).low B1.out.size,BF.out⟩
end Go.Proofs.Ytgcnemkhppkkcaa.cy

namespace Go.Proofs.Ytgcnemkhppkkcaa.cy
open Go.ChangeShapes Go.WideShapes Go.ChangeAt Go.RowKit
open mem ints arr pm permOf sf mat gl Go.Proofs.Ytgcnemkhppkkcaa.lp
set_option linter.unusedVariables false
set_option maxRecDepth 100000
theorem VB_set (M:List Bool) (k:Nat) (b:Bool):(VB M).set k (.bool b) = VB (M.set k b):=by simp [VB,List.map_set]
end Go.Proofs.Ytgcnemkhppkkcaa.cy

namespace Go.Proofs.Ytgcnemkhppkkcaa.cy
open Go.ChangeShapes Go.WideShapes Go.ChangeAt Go.RowKit
open mem ints arr pm permOf fns sf mat gl Go.Proofs.Ytgcnemkhppkkcaa.lp
set_option linter.unusedVariables false
set_option maxRecDepth 100000
end Go.Proofs.Ytgcnemkhppkkcaa.cy

namespace Go.Proofs.Ytgcnemkhppkkcaa.cy
open Go.ChangeShapes Go.WideShapes Go.ChangeAt Go.RowKit
open mem ints arr pm sf gl Go.Proofs.Ytgcnemkhppkkcaa.lp
set_option linter.unusedVariables false
set_option maxRecDepth 100000
set_option maxHeartbeats 1000000 in
theorem gcd_impl (a b:Nat) (w:World) (ha:a<=16777216) (hb:b<=16777216) :
  Calls sqp.prog 62 #[.int .i64 a,.int .i64 b] w fun e w'=>e = .returned (.int .i64 (Nat.gcd a b:Nat))/\Drawn w w':=by
 go_enter sqp.func62,sqp.ntmps62
 go_wp2
 go_loopw [0,1] (fun av bv wr=>∃ x y:Nat,x<=16777216/\y<=16777216/\av = .int .i64 x/\bv = .int .i64 y/\Drawn w wr/\Hid (Nat.gcd x y = Nat.gcd a b)) (fun _ bv _=>(intOf bv).toNat)
 case atStart=>exact ⟨a,b,ha,hb,rfl,rfl,⟨0,rfl⟩,Lib.hid rfl⟩
 case round =>
  obtain ⟨x,y,hx,hy,rfl,rfl,hdr,HG⟩:=hrel
  have HD:=Lib.hid hdr;clear hdr
  by_cases h0:y = 0
  ·subst h0
   have HE:Hid (x = Nat.gcd a b):=Lib.hid (by rw [<-HG.out,Nat.gcd_zero_right])
   go_wp2
   go_ret
   exact ⟨ret_int (by rw [<-HE.out]),HD.out⟩
  ·have hb0:((y:Int) != 0) = true:=by simp;omega
   have hm:x % y < y:=Nat.mod_lt _ (by omega)
   have e1:(x:Int).tmod y = ((x % y:Nat):Int):=by rw [<-Int.ofNat_tmod]
   have NG:Hid (Nat.gcd y (x % y) = Nat.gcd a b):=Lib.hid (by rw [<-HG.out,Nat.gcd_comm x y,Nat.gcd_rec y x,Nat.gcd_comm])
   generalize hz:x % y = z at *
   have hw:=IntWalk.i64_in (z:Int) (by omega)
   go_wp2
   go_region
   go_wp2
   go_roundw
   case rel=>exact ⟨y,z,by omega,by omega,rfl,by first | rfl | (congr 1),by first | exact HD.out | exact HD.out.more 1 | exact (HD.out.more 1).more 1,NG⟩
   case measure=>simp [intOf];omega
theorem cyl_all {r u:List Int} (h:transB r u = true):aS (cyF r u) = r.length/\hS (cyF r u) = (cycF r).length/\∀ x ∈ cyF r u,∃ w h:Nat,x = ((w:Int),(h:Int))/\1<=w/\1<=h/\w<=24:=by
 have sw:=cycF_rows h rfl
 have c:=cyl_ok sw.sf sw.rw (cycF r).length (Nat.le_refl _)
 have o:=cyS_ok (ab_inj sw.sf sw.rw) (cycF r).length (Nat.le_refl _)
 obtain ⟨a1,a2⟩:=wsum_all o.1 c.all
 have hsum:((cycF r).map List.length).sum = r.length:=by
  rw [cycF,sw.sf.r.b,if_pos rfl]
  exact cso_len sw.sf.br
 rw [cyF_yes h]
 refine ⟨by show aS (cyS _ _ _).2 = _;rw [c.area,a1,hsum],by show hS (cyS _ _ _).2 = _;rw [c.high,a2],fun x hx=>?_⟩
 obtain ⟨w,hh,e,e1,e2,j,xs,q1,q2⟩:=c.each x hx
 have:=(sw.rw.way q1).choose_spec.2.2.inn.len
 have:=sw.sf.small
 exact ⟨w,hh,e,e1,e2,by omega⟩
def wS (L:List Cy):Nat:=(L.map fun x=>x.1.toNat).sum
theorem wS_le:∀ {L:List Cy},(∀ x ∈ L,∃ w h:Nat,x = ((w:Int),(h:Int))/\1<=w/\1<=h/\w<=24)->(wS L:Int)<=aS L/\(∀ x ∈ L,x.2<=hS L)/\0<=hS L
 | [],_=>by simp [wS,aS,hS]
 | x :: t,h=>by
  obtain ⟨a,b,c⟩:=wS_le (L:=t) (fun y hy=>h y (by simp [hy]))
  obtain ⟨w,hh,rfl,h1,h2,h3⟩:=h x (by simp)
  have e1:wS (((w:Int),(hh:Int)) :: t) = w + wS t:=by simp [wS]
  have e2:aS (((w:Int),(hh:Int)) :: t) = (w:Int) * hh + aS t:=by simp [aS]
  have e3:hS (((w:Int),(hh:Int)) :: t) = (hh:Int) + hS t:=by simp [hS]
  have m:(w:Int) * 1<=(w:Int) * hh:=Int.mul_le_mul_of_nonneg_left (by omega) (by omega)
  refine ⟨by rw [e1,e2];omega,fun y hy=>?_,by rw [e3];omega⟩
  rw [e3]
  rcases List.mem_cons.1 hy with z | z
  ·subst z;show (hh:Int)<=_;omega
  ·have:=b y z;omega
def need (x:Cy):Nat:=x.1.toNat / Nat.gcd x.1.toNat x.2.toNat
def lsG:List Cy->Nat->Nat
 | [],n=>n
 | x :: t,n=>lsG t (Nat.lcm n (need x))
noncomputable def lsF (r u:List Int):Int:=if transB r u then (lsG (cyF r u) 1:Nat) else 0
theorem need_le (w h:Nat) (hw:1<=w):1<=w / Nat.gcd w h/\w / Nat.gcd w h<=w :=
 ⟨Nat.div_pos (Nat.gcd_le_left _ hw) (Nat.gcd_pos_of_pos_left _ hw),Nat.div_le_self _ _⟩
theorem lcm_l (n k:Nat):n / Nat.gcd n k * k = Nat.lcm n k:=by
 unfold Nat.lcm
 rw [Nat.div_mul_right_comm (Nat.gcd_dvd_left n k)]
theorem lcm_r (n k:Nat):n * (k / Nat.gcd n k) = Nat.lcm n k:=by
 unfold Nat.lcm
 rw [Nat.mul_div_assoc _ (Nat.gcd_dvd_right n k)]
structure Lq (L:List Cy) (k n:Nat):Prop where
 pos:0 < n
 le:n<=2 ^ wS (L.take k)
 go:lsG (L.drop k) n = lsG L 1
theorem Lq.start (L:List Cy):Lq L 0 1:=⟨by omega,by simp [wS],rfl⟩
theorem Lq.bound {L:List Cy} {k n:Nat} (h:Lq L k n) (hw:wS L<=24):n<=16777216:=by
 have h1:wS (L.take k)<=wS L:=by
  have e:wS L = wS (L.take k) + wS (L.drop k):=by unfold wS;rw [<-List.sum_append,<-List.map_append,List.take_append_drop]
  omega
 have h2:2 ^ wS (L.take k)<=2 ^ 24:=Nat.pow_le_pow_right (by omega) (by omega)
 have:=h.le
 omega
theorem Lq.next {L:List Cy} {k n w h:Nat} (hl:Lq L k n) (hx:L[k]? = some ((w:Int),(h:Int))) (h1:1<=w) (h2:1<=h):Lq L (k + 1) (Nat.lcm n (w / Nat.gcd w h)):=by
 obtain ⟨a,b⟩:=need_le w h h1
 have e:need ((w:Int),(h:Int)) = w / Nat.gcd w h:=by simp [need]
 have hp:=hl.pos
 refine ⟨Nat.lcm_pos hp a,?_,?_⟩
 ·have e2:wS (L.take (k + 1)) = wS (L.take k) + w:=by rw [List.take_add_one,hx];simp [wS]
  rw [e2,Nat.pow_add]
  have h3:Nat.lcm n (w / Nat.gcd w h)<=n * (w / Nat.gcd w h):=Nat.le_of_dvd (Nat.mul_pos hp a) (Nat.lcm_dvd_mul _ _)
  have h4:w < 2 ^ w:=Nat.lt_two_pow_self
  exact Nat.le_trans h3 (Nat.mul_le_mul hl.le (by omega))
 ·have hk:=(List.getElem?_eq_some_iff.1 hx).1
  have hd:L.drop k = ((w:Int),(h:Int)) :: L.drop (k + 1):=by
   rw [List.drop_eq_getElem_cons hk]
   congr 1
   rw [List.getElem?_eq_getElem hk] at hx
   exact Option.some.inj hx
  rw [<-hl.go,hd,lsG,e]
theorem Lq.fin {L:List Cy} {k n:Nat} (h:Lq L k n) (hk:L.length<=k):n = lsG L 1:=by
 rw [<-h.go,List.drop_of_length_le hk];rfl
theorem lsF_no {r u:List Int} (h:transB r u = false):lsF r u = 0:=by simp [lsF,h]
theorem lsF_yes {r u:List Int} (h:transB r u = true):lsF r u = (lsG (cyF r u) 1:Nat):=by simp [lsF,h]
set_option maxHeartbeats 4000000 in
theorem ls_impl (v:Value) (r u:List Int) (hi:Nat) (w:World) (hx:Srd w hi v r u) (hn:r.length<=1048576) (hm:u.length<=1048576) :
  Calls sqp.prog 31 #[v] w fun e w'=>e = .returned (.int .i64 (lsF r u))/\Below w.heap.size w w':=by
 have HX:=Lib.hid hx;clear hx
 obtain ⟨P,n,c,Q,m,d,rfl,q1,q2,e1,e2,ht,HR⟩:=HX.out.open
 have L1:=Lib.hid q1
 clear HR q1 q2
 go_enter sqp.func31,sqp.ntmps31
 go_wp2_with fail
 refine (gluingOf_any _ r u hi _ (HX.out.keep ((Below.refl hi w).alloc ht _) (Nat.le_refl _)) hn hm).mono ?_
 rintro e w1 ⟨rfl,b1⟩
 have B1:=Lib.hid (below1 _ _ b1);clear b1
 cases hq:transB r u
 ·have HF:=Lib.hid (lsF_no hq);clear hq
  go_wp2_with (refine wpList_store_row rfl 62 _ _ rfl w1.heap.size (V (glv r u)).toArray rfl rfl 62 (V zero49).toArray (Arr.new w1 (V zero49) _ rfl) (size49 (glv_len _ _)) (by simp [V_len,glv_len,zero49]) (one_V _) ?_;generalize hw_:(w1.alloc (.cells #[.int .i64 0,.int .i64 0,.int .i64 0,.int .i64 0,.int .i64 0,.int .i64 0,.int .i64 0,.int .i64 0,.int .i64 0,.int .i64 0,.int .i64 0,.int .i64 0,.int .i64 0,.int .i64 0,.int .i64 0,.int .i64 0,.int .i64 0,.int .i64 0,.int .i64 0,.int .i64 0,.int .i64 0,.int .i64 0,.int .i64 0,.int .i64 0,.int .i64 0,.int .i64 0,.int .i64 0,.int .i64 0,.int .i64 0,.int .i64 0,.int .i64 0,.int .i64 0,.int .i64 0,.int .i64 0,.int .i64 0,.int .i64 0,.int .i64 0,.int .i64 0,.int .i64 0,.int .i64 0,.int .i64 0,.int .i64 0,.int .i64 0,.int .i64 0,.int .i64 0,.int .i64 0,.int .i64 0,.int .i64 0,.int .i64 0] 62)).setRow w1.heap.size (V (glv r u)).toArray = w2;have A2:Hid (Arr w2 w1.heap.size (V (glv r u)) 62):=Lib.hid (by rw [<-hw_];exact (Arr.new w1 (V zero49) _ rfl).row);have b1:Below w1.heap.size w1 w2:=(by rw [<-hw_];exact arr.below_setRow ((Below.refl _ _).alloc (Nat.le_refl _) _) (Nat.le_refl _) _);have t_:w1.heap.size + 1<=w2.heap.size:=(by rw [<-hw_];simp);clear hw_;replace B1:=Lib.hid (B1.out.trans (b1.mono B1.out.size));clear b1)
  go_ret
  exact ⟨ret_int HF.out.symm,B1.out⟩
 ·have HT:=Lib.hid hq
  have HS:Hid (Sf n r u):=Lib.hid (by have:=transB_iff.1 hq;rwa [L1.out] at this)
  have HV:=Lib.hid (lsF_yes hq)
  have CA:=Lib.hid (cyl_all hq)
  have HC:=Lib.hid (cyF_yes hq).symm
  have n24:Hid (r.length<=24):=Lib.hid (transB_iff.1 hq).small
  have HG:Hid (glv r u = gl (ext r) (ext u) n):=Lib.hid (by rw [glv_yes hq,L1.out])
  clear hq
  rw [HG.out]
  go_wp2_with (first | (refine wpList_store_row rfl 62 _ _ rfl w1.heap.size (V (gl (ext r) (ext u) n)).toArray rfl rfl 62 (V zero49).toArray (Arr.new w1 (V zero49) _ rfl) (size49 (gl_len (ext_len _) (ext_len _) n)) (by simp [V_len,gl_len,ext_len,zero49]) (one_V _) ?_;generalize hw_:(w1.alloc (.cells #[.int .i64 0,.int .i64 0,.int .i64 0,.int .i64 0,.int .i64 0,.int .i64 0,.int .i64 0,.int .i64 0,.int .i64 0,.int .i64 0,.int .i64 0,.int .i64 0,.int .i64 0,.int .i64 0,.int .i64 0,.int .i64 0,.int .i64 0,.int .i64 0,.int .i64 0,.int .i64 0,.int .i64 0,.int .i64 0,.int .i64 0,.int .i64 0,.int .i64 0,.int .i64 0,.int .i64 0,.int .i64 0,.int .i64 0,.int .i64 0,.int .i64 0,.int .i64 0,.int .i64 0,.int .i64 0,.int .i64 0,.int .i64 0,.int .i64 0,.int .i64 0,.int .i64 0,.int .i64 0,.int .i64 0,.int .i64 0,.int .i64 0,.int .i64 0,.int .i64 0,.int .i64 0,.int .i64 0,.int .i64 0,.int .i64 0] 62)).setRow w1.heap.size (V (gl (ext r) (ext u) n)).toArray = w2;have A2:Hid (Arr w2 w1.heap.size (V (gl (ext r) (ext u) n)) 62):=Lib.hid (by rw [<-hw_];exact (Arr.new w1 (V zero49) _ rfl).row);have b1:Below w1.heap.size w1 w2:=(by rw [<-hw_];exact arr.below_setRow ((Below.refl _ _).alloc (Nat.le_refl _) _) (Nat.le_refl _) _);have t_:w1.heap.size + 1<=w2.heap.size:=(by rw [<-hw_];simp);clear hw_;replace B1:=Lib.hid (B1.out.trans (b1.mono B1.out.size));clear b1) | (refine wpList_load_row rfl 62 _ rfl w1.heap.size rfl 62 (V (gl (ext r) (ext u) n)).toArray (0,0) _ A2.out sqp.underlying62 rfl (size49 (gl_len (ext_len _) (ext_len _) n)) ?_))
  refine (cys_any r u n _ HS.out).mono ?_
  rw [HC.out]
  rintro e w4 ⟨C,cc,rfl,o4,b4⟩
  have O4:=Lib.hid o4
  have B4:=Lib.hid (B1.out.trans (b4.mono B1.out.size))
  have L24:=cyF_24 r u
  clear o4 b4 HC A2
  generalize cyF r u = L at *
  have WS:Hid (wS L<=24):=Lib.hid (by have:=(wS_le CA.out.2.2).1;rw [CA.out.1] at this;have:=n24.out;omega)
  have EA:Hid (∀ x ∈ L,∃ w h:Nat,x = ((w:Int),(h:Int))/\1<=w/\1<=h/\w<=24/\h<=24):=Lib.hid (fun x hx=>by
   obtain ⟨w,h,e,h1,h2,h3⟩:=CA.out.2.2 x hx
   refine ⟨w,h,e,h1,h2,h3,?_⟩
   have:=(wS_le CA.out.2.2).2.1 x hx
   rw [CA.out.2.1,e] at this
   have hl:=(cycF_rows HT.out rfl).rw.len
   have:=n24.out
   omega)
  clear CA
  go_wp2
  go_loopw [5,19] (fun nv i wr=>∃ (k n:Nat),k<=L.length/\nv = .int .i64 n/\i = .int .i64 k/\Lq L k n/\Below w4.heap.size w4 wr) (fun _ i _=>L.length - (intOf i).toNat)
  case atStart=>exact ⟨0,1,Nat.zero_le _,rfl,rfl,Lq.start L,Below.refl _ _⟩
  case round =>
   obtain ⟨k,nn,hk,rfl,rfl,hlq,hbl⟩:=hrel
   have LQ:=Lib.hid hlq;have BL:=Lib.hid hbl
   clear hlq hbl
   have hsz:=BL.out.size
   have nb:=LQ.out.bound WS.out
   have n1:=LQ.out.pos
   by_cases hlt:k < L.length
   ·obtain ⟨g,off,x,rfl,hg,hsk,c0,c1⟩:=(O4.out.rd.keep BL.out (Nat.le_refl _)).at_ hlt
    obtain ⟨ww,hh,rfl,w1_,h1_,w24,h24⟩:=EA.out x (List.mem_of_getElem? hsk)
    have SK:=Lib.hid hsk
    have RX:=Lib.hid (two_cells c0 c1)
    have hgw:g < wr.heap.size:=by omega
    clear hsk c0 c1
    have NB:Hid (Arr (wr.alloc (.cells #[.int .i64 ww,.int .i64 hh] 96)) wr.heap.size [.int .i64 ww,.int .i64 hh] 96):=Lib.hid (Arr.new wr _ _ rfl)
    have BN:Hid (Below w4.heap.size w4 (wr.alloc (.cells #[.int .i64 ww,.int .i64 hh] 96))):=Lib.hid (BL.out.alloc hsz _)
    go_wp2_with (refine wpList_load_mid rfl 96 _ rfl g (off + k * 2) rfl [.int .i64 ww,.int .i64 hh] _ RX.out sqp.underlying96 rfl (sizeCy _ _) ?_)
    generalize hwa:wr.alloc (.cells #[.int .i64 ww,.int .i64 hh] 96) = wa at *
    generalize hxb:wr.heap.size = xb at *
    clear hwa RX
    have hxa:xb < wa.heap.size:=NB.out.lt
    have C0:Hid (∀ W,Below wa.heap.size wa W->W.cell? ⟨xb,0,none⟩ = some (.int .i64 ww)):=Lib.hid (fun W h=>by rw [h.cell (p:=⟨xb,0,none⟩) hxa];exact NB.out.cell (k:=0) rfl)
    have C1:Hid (∀ W,Below wa.heap.size wa W->W.cell? ⟨xb,1,none⟩ = some (.int .i64 hh)):=Lib.hid (fun W h=>by rw [h.cell (p:=⟨xb,1,none⟩) hxa];exact NB.out.cell (k:=1) rfl)
    refine wp_region_held_drew (S:=fun W=>Below wa.heap.size wa W) (by kernel_rfl) ⟨rfl,rfl,rfl,Nat.le_refl _,fun _ _=>rfl⟩ (fun hHeld=>?_)
    have BD:Hid (Below w4.heap.size w4 wa.drew):=Lib.hid (BN.out.trans (hHeld.mono BN.out.size))
    generalize wa.drew = wd at *
    refine wpAnyH_take (i:=0) (v:=.pointer (some ⟨xb,0,none⟩)) rfl (by kernel_rfl) (by kernel_rfl) (by kernel_rfl) (fun _ _ _ h=>h) (Or.inl ⟨by rfl,fun w hSw=>by go_simp⟩) hHeld ?_
    refine wpAnyH_take (i:=1) (v:=.int .i64 ww) rfl (by kernel_rfl) (by kernel_rfl) (by kernel_rfl) (fun _ _ _ h=>h) (Or.inl ⟨by rfl,fun w hSw=>by have:=C0.out w hSw;go_simp⟩) hHeld ?_
    refine wpAnyH_take (i:=2) (v:=.pointer (some ⟨xb,0,none⟩)) rfl (by kernel_rfl) (by kernel_rfl) (by kernel_rfl) (fun _ _ _ h=>h) (Or.inl ⟨by rfl,fun w hSw=>by go_simp⟩) hHeld ?_
    refine wpAnyH_take (i:=3) (v:=.int .i64 ww) rfl (by kernel_rfl) (by kernel_rfl) (by kernel_rfl) (fun _ _ _ h=>h) (Or.inl ⟨by rfl,fun w hSw=>by have:=C0.out w hSw;go_simp⟩) hHeld ?_
    refine wpAnyH_take (i:=4) (v:=.pointer (some ⟨xb,1,none⟩)) rfl (by kernel_rfl) (by kernel_rfl) (by kernel_rfl) (fun _ _ _ h=>h) (Or.inl ⟨by rfl,fun w hSw=>by go_simp⟩) hHeld ?_
    refine wpAnyH_take (i:=5) (v:=.int .i64 hh) rfl (by kernel_rfl) (by kernel_rfl) (by kernel_rfl) (fun _ _ _ h=>h) (Or.inl ⟨by rfl,fun w hSw=>by have:=C1.out w hSw;go_simp⟩) hHeld ?_
    refine wpAnyH_ready (rs:=[6]) (by kernel_rfl) (by simp) (AllReadyH.cons rfl (fun K hK=>?_) AllReadyH.nil)
    go_simp
    refine (gcd_impl ww hh _ (by omega) (by omega)).mono ?_
    rintro e w5 ⟨rfl,hd5⟩
    have hHeldG:Below wa.heap.size wa w5:=hHeld.trans (hd5.below _)
    replace BD:=Lib.hid (BD.out.trans (hd5.below _))
    clear hd5
    have gp:0 < Nat.gcd ww hh:=Nat.gcd_pos_of_pos_left _ (by omega)
    have gle:Nat.gcd ww hh<=ww:=Nat.gcd_le_left _ (by omega)
    have KW:=Lib.hid (need_le ww hh w1_)
    have NXT:=Lib.hid (LQ.out.next SK.out w1_ h1_)
    generalize hkk:ww / Nat.gcd ww hh = kk at *
    have e1:(ww:Int).tdiv (Nat.gcd ww hh:Nat) = (kk:Int):=by rw [<-hkk];rw [<-Int.ofNat_tdiv]
    have k1:=KW.out.1;have k24:=KW.out.2
    generalize Nat.gcd ww hh = g1 at *
    have g0:¬ (g1:Int) = 0:=by omega
    have gN:¬ g1 = 0:=by omega
    have hwk:=IntWalk.i64_in (kk:Int) (by omega)
    refine hK.out _ _ hHeldG (fun hHeld2=>?_)
    clear hK K hkk KW hHeldG
    refine wpAnyH_ready (rs:=[7]) (by kernel_rfl) (by simp) (AllReadyH.cons rfl (fun K hK=>?_) AllReadyH.nil)
    go_simp
    refine hK.out _ _ hHeld2 (fun hHeld3=>?_)
    clear hK K
    refine wpAnyH_ready (rs:=[8]) (by kernel_rfl) (by simp) (AllReadyH.cons rfl (fun K hK=>?_) AllReadyH.nil)
    go_simp
    refine hK.out _ _ hHeld3 (fun hHeld4=>?_)
    clear hK K hHeld hHeld2 hHeld3 hHeld4 C0 C1 NB BN e1
    refine wpAnyH_done (by kernel_rfl) ?_ _
    go_wp2_with fail
    refine (gcd_impl nn kk _ (by omega) (by omega)).mono ?_
    rintro e w6 ⟨rfl,hd6⟩
    replace BD:=Lib.hid (BD.out.trans (hd6.below _))
    clear hd6
    have gp2:0 < Nat.gcd nn kk:=Nat.gcd_pos_of_pos_left _ n1
    have gle2:Nat.gcd nn kk<=nn:=Nat.gcd_le_left _ n1
    have LC:Hid ((nn:Int) * (((kk / Nat.gcd nn kk:Nat)):Int) = ((Nat.lcm nn kk:Nat):Int)):=Lib.hid (by exact_mod_cast lcm_r nn kk)
    have PB:Hid ((nn:Int) * (((kk / Nat.gcd nn kk:Nat)):Int)<=16777216):=Lib.hid (by rw [LC.out];have:=NXT.out.bound WS.out;omega)
    have qle:kk / Nat.gcd nn kk<=16777216:=Nat.le_trans (Nat.div_le_self _ _) (by omega)
    generalize hq2:kk / Nat.gcd nn kk = q2 at *
    have HQ2:Hid (kk / Nat.gcd nn kk = q2):=Lib.hid hq2
    generalize hg2:Nat.gcd nn kk = g2 at *
    clear hg2 hq2
    have g20:¬ (g2:Int) = 0:=by omega
    have gN2:¬ g2 = 0:=by omega
    have e2:(kk:Int).tdiv (g2:Int) = (q2:Int):=by rw [<-HQ2.out];rw [<-Int.ofNat_tdiv]
    have mlo:0<=(nn:Int) * q2:=Int.mul_nonneg (by omega) (by omega)
    have mhi:(nn:Int) * q2<=16777216:=by have:=PB.out;omega
    have hwq:wrap64 (q2:Int) = q2:=IntWalk.wrap64_in _ (by omega)
    have hwp:=IntWalk.wrap64_in ((nn:Int) * q2) (by omega)
    have HWW:Hid (wrap64 ((nn:Int) * wrap64 (q2:Int)) = (nn:Int) * q2):=Lib.hid (by rw [hwq,hwp])
    clear HQ2 hwq hwp
    go_wp2
    go_roundw
    case rel=>exact ⟨k + 1,Nat.lcm nn kk,by omega,by rw [<-LC.out,<-HWW.out],by go_num,NXT.out,BD.out⟩
    case measure=>simp [intOf];omega
   ·have HE:Hid (nn = lsG L 1):=Lib.hid (LQ.out.fin (by omega))
    go_wp2
    go_ret
    exact ⟨ret_int (by rw [HV.out,HE.out]),B4.out.trans (BL.out.mono B4.out.size)⟩
end Go.Proofs.Ytgcnemkhppkkcaa.cy

namespace Go.Proofs.Ytgcnemkhppkkcaa.cy
open pm arr inv orb
set_option linter.unusedVariables false
set_option maxRecDepth 100000
def wd (rr:List (List Int)) (i:Nat):Nat:=(rr.getD i []).length
def sft (m w:Nat):Nat:=(w - 1) * m
structure Pot (N m:Nat) (ab:List Int) (W:Nat->Nat) (T:Nat->Prop) (a:Nat->Nat):Prop where
 up:∀ i x:Nat,i < N->T i->at_ ab i = x->a x % W i = (a i + sft m (W i)) % W i
 top:∀ i,i < N->T i->at_ ab i < 0->(a i + sft m (W i)) % W i = 0
 bot:∀ i,i < N->T i->(∀ k,k < N->at_ ab k ≠ (i:Int))->a i % W i = 0
theorem sft_mul {m w h:Nat} (hw:w ∣ h * m):h * sft m w % w = 0:=by
 unfold sft
 have:h * ((w - 1) * m) = (w - 1) * (h * m):=by rw [Nat.mul_left_comm]
 rw [this]
 exact Nat.mod_eq_zero_of_dvd (Nat.dvd_trans hw (Nat.dvd_mul_left _ _))
open Classical in
theorem pot_more {N m r:Nat} {ab:List Int} {S:List Bool} {W:Nat->Nat} {l:List Nat} {a:Nat->Nat} (hi:Inj N ab) (hS:Closed N ab (on S)) (hW:∀ i x:Nat,i < N->at_ ab i = x->W x = W i)
  (h:Lc N ab S r l) (he:Le N ab l) (hm:W r ∣ l.length * m) (hp:Pot N m ab W (on S) a):∃ a',Pot N m ab W (fun j=>on S j\/j ∈ l) a':=by
 have hpos:=h.pos
 have hw0:∀ t,t < l.length->W (l.getD t 0) = W (l.getD 0 0):=by
  intro t
  induction t with
  | zero=>intro _;rfl
  | succ t ih =>
   intro ht
   rw [<-ih (by omega)]
   exact hW _ _ (h.lt _ (gD_mem (show t < l.length by omega))) (h.nx t ht)
 have hw:∀ t,t < l.length->W (l.getD t 0) = W r:=by
  intro t ht
  obtain ⟨t',h1,h2⟩:=gD_of h.row
  rw [hw0 t ht,<-h2,hw0 t' h1]
 have hz:=sft_mul hm
 let pl:Nat->Nat:=fun j=>if q:∃ t,t < l.length/\l.getD t 0 = j then q.choose else 0
 have hpl:∀ t,t < l.length->pl (l.getD t 0) = t:=by
  intro t ht
  have q:∃ t',t' < l.length/\l.getD t' 0 = l.getD t 0:=⟨t,ht,rfl⟩
  show (if q:∃ t',t' < l.length/\l.getD t' 0 = l.getD t 0 then q.choose else 0) = t
  rw [dif_pos q]
  exact gD_inj h.nd q.choose_spec.1 ht q.choose_spec.2
 let A:Nat->Nat:=fun j=>if j ∈ l then pl j * sft m (W r) else a j
 have hA:∀ t,t < l.length->A (l.getD t 0) = t * sft m (W r):=by
  intro t ht
  show (if l.getD t 0 ∈ l then _ else _) = _
  rw [if_pos (gD_mem ht),hpl t ht]
 have hB:∀ j,on S j->A j = a j:=by
  intro j hj
  show (if j ∈ l then _ else _) = _
  rw [if_neg (fun q=>h.dis j q hj)]
 refine ⟨A,⟨fun i x hiN hT hx=>?_,fun i hiN hT hx=>?_,fun i hiN hT hx=>?_⟩⟩
 ·rcases hT with q | q
  ·rw [hB i q,hB x ((hS i x hiN hx).1 q)]
   exact hp.up i x hiN q hx
  ·obtain ⟨t,ht,rfl⟩:=gD_of q
   rw [hA t ht,hw t ht]
   by_cases h1:t + 1 < l.length
   ·have e:=h.nx t h1
    rw [hx] at e
    rw [show x = l.getD (t + 1) 0 by omega,hA (t + 1) h1,Nat.succ_mul]
   ·have ht2:l.length - 1 = t:=by omega
    rcases he with q2 | ⟨q2,_⟩
    ·rw [ht2,hx] at q2
     rw [show x = l.getD 0 0 by omega,hA 0 hpos,Nat.zero_mul,Nat.zero_mod,<-Nat.succ_mul,show t.succ = l.length by omega,hz]
    ·rw [ht2,hx] at q2;omega
 ·rcases hT with q | q
  ·rw [hB i q]
   exact hp.top i hiN q hx
  ·obtain ⟨t,ht,rfl⟩:=gD_of q
   rw [hA t ht,hw t ht]
   by_cases h1:t + 1 < l.length
   ·have e:=h.nx t h1
    omega
   ·rw [<-Nat.succ_mul,show t.succ = l.length by omega,hz]
 ·rcases hT with q | q
  ·rw [hB i q]
   exact hp.bot i hiN q hx
  ·obtain ⟨t,ht,rfl⟩:=gD_of q
   cases t with
   | zero=>rw [hA 0 ht,Nat.zero_mul,Nat.zero_mod]
   | succ t=>exact absurd (h.nx t ht) (hx _ (h.lt _ (gD_mem (show t < l.length by omega))))
theorem cyS_sub {ab:List Int} {rr:List (List Int)} {x:Int × Int} {i:Nat}:∀ (k:Nat),x ∈ (cyS ab rr i).2->x ∈ (cyS ab rr (i + k)).2
 | 0,h=>h
 | k + 1,h=>by
  have ih:=cyS_sub k h
  show x ∈ (cyS ab rr ((i + k) + 1)).2
  by_cases q:(cyS ab rr (i + k)).1[i + k]? = some true
  ·rw [cyS_yes q];exact ih
  ·rw [cyS,if_neg q];exact List.mem_append_left _ ih
theorem dvd_lsG:∀ {L:List Cy} {n:Nat},n ∣ lsG L n/\∀ x ∈ L,need x ∣ lsG L n
 | [],n=>⟨Nat.dvd_refl n,fun x hx=>by simp at hx⟩
 | y :: t,n=>by
  obtain ⟨a,b⟩:=dvd_lsG (L:=t) (n:=Nat.lcm n (need y))
  refine ⟨Nat.dvd_trans (Nat.dvd_lcm_left _ _) a,fun x hx=>?_⟩
  rcases List.mem_cons.1 hx with rfl | q
  ·exact Nat.dvd_trans (Nat.dvd_lcm_right _ _) a
  ·exact b x q
theorem need_dvd {w h m:Nat} (hn:need ((w:Int),(h:Int)) ∣ m):w ∣ h * m:=by
 simp only [need,Int.toNat_natCast] at hn
 obtain ⟨c,rfl⟩:=hn
 refine Nat.dvd_trans (Nat.dvd_lcm_left w h) ?_
 rw [<-Nat.mul_assoc,Nat.mul_comm h,lcm_l]
 exact Nat.dvd_mul_right _ _
theorem pot_all {N m:Nat} {ab:List Int} {rr:List (List Int)} (hN:rr.length = N) (hi:Inj N ab) (hW:∀ i x:Nat,i < N->at_ ab i = x->wd rr x = wd rr i) (hm:∀ x ∈ cyL ab rr,need x ∣ m) :
  ∀ i,i<=N->∃ a,Pot N m ab (wd rr) (on (cyS ab rr i).1) a:=by
 intro i
 induction i with
 | zero =>
  intro _
  have hn:∀ j,¬ on (cyS ab rr 0).1 j:=fun j q=>by
   unfold on at q
   simp only [cyS,List.getElem?_replicate] at q
   split at q <;> simp at q
  exact ⟨fun _=>0,⟨fun i x _ h=>absurd h (hn i),fun i _ h=>absurd h (hn i),fun i _ h=>absurd h (hn i)⟩⟩
 | succ i ih =>
  intro hiN
  obtain ⟨a,ha⟩:=ih (by omega)
  subst hN
  obtain ⟨o1,o2,_⟩:=cyS_ok hi i (by omega)
  by_cases q:(cyS ab rr i).1[i]? = some true
  ·rw [cyS_yes q];exact ⟨a,ha⟩
  ·have hno:=not_on (by omega) q
   have e:=cyS_no hno
   generalize hSS:(cyS ab rr i).1 = S at *
   obtain ⟨l,hl,hle⟩:=lc_done (r:=i) hi o2 rr.length [i] ⟨by simp,fun j hj=>by rw [List.mem_singleton] at hj;omega,by simp,fun t ht=>by simp at ht,fun T a b c j hj=>by rw [List.mem_singleton] at hj;exact hj ▸ c,fun j hj=>by rw [List.mem_singleton] at hj;exact hj ▸ q⟩ (by omega)
   have hc:=lc_clos hi o2 o1 (by omega) hl hle
   have hcnt:cnt (clos rr.length ab S i) = cnt S + l.length:=cnt_more l S _ (by rw [clos_len,o1]) hl.nd (fun j hj=>⟨by rw [o1];exact hl.lt j hj,hl.dis j hj⟩) hc
   have hmem:(((rr.getD i []).length:Int),((l.length:Nat):Int)) ∈ cyL ab rr:=by
    have:(((rr.getD i []).length:Int),((l.length:Nat):Int)) ∈ (cyS ab rr (i + 1)).2:=by
     rw [e,hcnt,Nat.add_sub_cancel_left];simp
    have:=cyS_sub (rr.length - (i + 1)) this
    rw [show i + 1 + (rr.length - (i + 1)) = rr.length by omega] at this
    exact this
   obtain ⟨a',ha'⟩:=pot_more hi o2 hW hl hle (need_dvd (hm _ hmem)) ha
   refine ⟨a',?_⟩
   rw [e]
   have hx:(on (clos rr.length ab S i)) = fun j=>on S j\/j ∈ l:=funext fun j=>propext (hc j)
   show Pot _ _ _ _ (on (clos rr.length ab S i)) a'
   rw [hx];exact ha'
end Go.Proofs.Ytgcnemkhppkkcaa.cy

namespace Go.Proofs.Ytgcnemkhppkkcaa.cy
open pm arr inv orb
set_option linter.unusedVariables false
set_option maxRecDepth 100000
section
variable {n:Nat} {R:List Int} {rr:List (List Int)} (h:Rws n R rr)
include h
theorem row_per {i:Nat} {xs:List Int} {y:Int} (hx:rr[i]? = some xs) (hy:y ∈ xs) (k:Nat):it R y (xs.length * k) = y:=by
 obtain ⟨f,f1,f2,_⟩:=h.way hx
 obtain ⟨y0,y1⟩:=h.rng hx hy
 have e:(cyc R n y).length = xs.length:=by
  rw [f2] at hy
  have:=per_same h.bij (f:=(f:Int)) (by omega) (by omega) hy
  rw [<-f2] at this
  exact this
 rw [<-e]
 exact it_mul h.bij y0 y1 k
theorem row_mod {i:Nat} {xs:List Int} {y:Int} (hx:rr[i]? = some xs) (hy:y ∈ xs) (e:Nat):it R y e = it R y (e % xs.length):=by
 have:it R y e = it R y (xs.length * (e / xs.length) + e % xs.length):=by rw [Nat.div_add_mod]
 rw [this,<-it_add,row_per h hx hy]
theorem row_congr {i:Nat} {xs:List Int} {y:Int} (hx:rr[i]? = some xs) (hy:y ∈ xs) {e f:Nat} (q:e % xs.length = f % xs.length):it R y e = it R y f:=by
 rw [row_mod h hx hy e,row_mod h hx hy f,q]
end
theorem it_back1 {n:Nat} {R U:List Int} (s:Sf n R U) {z:Int} (z0:0<=z) (z1:z < n):∀ m,it (Inv R) (it R z m) m = z
 | 0=>rfl
 | m + 1=>by
  obtain ⟨a,b⟩:=it_in s.br z0 z1 m
  have e:it (Inv R) (it R z (m + 1)) 1 = it R z m:=by
   show (Inv R).getD (R.getD (it R z m).toNat 0).toNat 0 = it R z m
   exact Inv_left s.r a (by rw [s.lr];exact b)
  rw [Nat.add_comm m 1,<-it_add,Nat.add_comm 1 m,e,it_back1 s z0 z1 m]
theorem it_inv {n:Nat} {R U:List Int} (s:Sf n R U) {rr:List (List Int)} (h:Rws n R rr) {i:Nat} {xs:List Int} {y:Int} (hx:rr[i]? = some xs) (hy:y ∈ xs) (m:Nat):it (Inv R) y m = it R y (sft m xs.length):=by
 obtain ⟨y0,y1⟩:=h.rng hx hy
 obtain ⟨a,b⟩:=it_in s.br y0 y1 (sft m xs.length)
 have hpos:=(h.head hx).1
 have e:it R (it R y (sft m xs.length)) m = y:=by
  rw [it_add]
  unfold sft
  rw [<-Nat.succ_mul,show (xs.length - 1).succ = xs.length by omega]
  exact row_per h hx hy m
 have:=it_back1 s a b m
 rw [e] at this
 exact this
def phs (n:Nat) (R:List Int) (rr:List (List Int)) (a:Nat->Nat):List Int:=(List.range n).map fun (y:Nat)=>it R (y:Int) (a (rix rr (y:Int)).toNat)
theorem phs_len (n:Nat) (R:List Int) (rr:List (List Int)) (a:Nat->Nat):(phs n R rr a).length = n:=by simp [phs]
theorem phs_at {n:Nat} {R:List Int} {rr:List (List Int)} {a:Nat->Nat} (h:Rws n R rr) {i:Nat} {xs:List Int} {y:Int} (hx:rr[i]? = some xs) (hy:y ∈ xs):(phs n R rr a).getD y.toNat 0 = it R y (a i):=by
 obtain ⟨y0,y1⟩:=h.rng hx hy
 have hl:y.toNat < n:=by omega
 have e:(phs n R rr a)[y.toNat]? = some (it R ((y.toNat:Nat):Int) (a (rix rr ((y.toNat:Nat):Int)).toNat)):=by simp [phs,hl]
 rw [List.getD_eq_getElem?_getD,e,Option.getD_some,Int.toNat_of_nonneg y0,h.rix hx hy,Int.toNat_natCast]
theorem phs_iso {n m:Nat} {R U:List Int} (s:Sf n R U) {rr:List (List Int)} (h:Rws n R rr) {a:Nat->Nat} (hp:Pot rr.length m (abF (comm R U) U rr) (wd rr) (fun _=>True) a) :
  Iso n R U R (shN m (R,U)).2 (phs n R rr a):=by
 have hin:∀ {y:Nat},y < n->∃ (i:Nat) (xs:List Int),rr[i]? = some xs/\(y:Int) ∈ xs/\(phs n R rr a).getD y 0 = it R y (a i)/\(phs n R rr a).getD y 0 ∈ xs:=by
  intro y hy
  obtain ⟨i,xs,hx,hm⟩:=h.has (y:=(y:Int)) (by omega) (by omega)
  have e:=phs_at (a:=a) h hx hm
  rw [Int.toNat_natCast] at e
  exact ⟨i,xs,hx,hm,e,by rw [e];exact h.it_in hx hm _⟩
 have bp:Bij n (phs n R rr a):=by
  refine ⟨fun y hy=>?_,fun y z hy hz e=>?_⟩
  ·obtain ⟨i,xs,hx,_,_,hm⟩:=hin hy
   exact h.rng hx hm
  ·obtain ⟨i,xs,hx,hm,e1,hm1⟩:=hin hy
   obtain ⟨j,ys,hy',hn,e2,hn1⟩:=hin hz
   rw [e] at hm1
   have ij:=h.same hx hy' hm1 hn1
   subst ij
   rw [e1,e2] at e
   have:=it_inj s.br (f:=(y:Int)) (g:=(z:Int)) (by omega) (by omega) (by omega) (by omega) _ e
   omega
 have n24:n<=24:=by have:=s.r.len;have:=s.lr;omega
 have sm:=shN_sf (s:=(R,U)) s m
 have eU:(phs n R rr a).length = n:=phs_len _ _ _ _
 refine ⟨s,⟨by omega,fun y hy=>(bp.maps y (by omega)).1,fun y hy=>by have:=(bp.maps y (by omega)).2;omega,fun y z hy hz e=>bp.inj y z (by omega) (by omega) e⟩,eU,⟨s.br,s.br,bp,fun y hy=>?_⟩,⟨s.bu,sm.bu,bp,fun y hy=>?_⟩⟩
 ·obtain ⟨i,xs,hx,hm,e1,hm1⟩:=hin hy
  have hR:=h.next hx hm
  rw [Int.toNat_natCast] at hR
  have e2:=phs_at (a:=a) h hx hR
  rw [e1,e2]
  show it R y (a i + 1) = it R (R.getD y 0) (a i)
  have e3:R.getD y 0 = it R (y:Int) 1:=by show _ = R.getD ((y:Int)).toNat 0;rw [Int.toNat_natCast]
  rw [e3,it_add,Nat.add_comm]
 ·obtain ⟨i,xs,hx,hm,e1,hm1⟩:=hin hy
  obtain ⟨z0,z1⟩:=h.rng hx hm1
  have hiN:i < rr.length:=(List.getElem?_eq_some_iff.1 hx).1
  have wi:wd rr i = xs.length:=by simp [wd,List.getD_eq_getElem?_getD,hx]
  have eL:(shN m (R,U)).2.getD ((phs n R rr a).getD y 0).toNat 0 = U.getD (it R (y:Int) (a i + sft m xs.length)).toNat 0:=by
   rw [shN_snd s m _ (by omega),Int.toNat_of_nonneg z0,it_inv s h hx hm1 m,e1,it_add]
  have uy:=s.bu.maps y hy
  obtain ⟨x,ys,hx2,hm2⟩:=h.has uy.1 uy.2
  have e2:=phs_at (a:=a) h hx2 hm2
  rw [eL,e2]
  have hxN:x < rr.length:=(List.getElem?_eq_some_iff.1 hx2).1
  have wx:wd rr x = ys.length:=by simp [wd,List.getD_eq_getElem?_getD,hx2]
  have hab:=abF_at (c:=comm R U) (u:=U) hx
  cases hreg:regB (comm R U) xs with
  | true =>
   have eU2:=up_it s h hx hreg hm (a i + sft m xs.length)
   rw [Int.toNat_natCast] at eU2
   rw [eU2]
   obtain ⟨t,ht⟩:=h.reach hx (h.head hx).2 hm
   have eH:=up_it s h hx hreg (h.head hx).2 t
   rw [ht,Int.toNat_natCast] at eH
   obtain ⟨hd0,hd1⟩:=h.rng hx (h.head hx).2
   have uh:=s.bu.maps (xs.getD 0 0).toNat (by omega)
   obtain ⟨x',ys',hx',hm'⟩:=h.has uh.1 uh.2
   have hxx:x' = x:=h.same hx' hx2 (h.it_in hx' hm' t) (by rw [<-eH];exact hm2)
   subst hxx
   have:ys' = ys:=by rw [hx'] at hx2;exact Option.some.inj hx2
   subst this
   rw [hreg,if_pos rfl,h.rix hx' hm'] at hab
   have q:=hp.up i x' hiN trivial hab
   rw [wi] at q
   have hl:=ab_len s h hiN hab hx hx'
   exact row_congr h hx' hm2 (by rw [hl];exact q.symm)
  | false =>
   rw [hreg,if_neg (by simp)] at hab
   have q:=hp.top i hiN trivial (by rw [hab];omega)
   rw [wi] at q
   have eT:it R (y:Int) (a i + sft m xs.length) = (y:Int):=by
    rw [row_congr h hx hm (f:=0) (by rw [q,Nat.zero_mod])];rfl
   rw [eT,Int.toNat_natCast]
   have qb:=hp.bot x hxN trivial (fun k hk e=>by
    obtain ⟨zs,ys',k1,k2,k3,k4⟩:=ab_row hk e
    have:ys' = ys:=by rw [hx2] at k2;exact (Option.some.inj k2).symm
    subst this
    obtain ⟨t,ht⟩:=h.reach hx2 k4 hm2
    have eH:=up_it s h k1 k3 (h.head k1).2 t
    rw [ht] at eH
    have hz:=h.it_in k1 (h.head k1).2 t
    obtain ⟨g0,g1⟩:=h.rng k1 hz
    have:=s.bu.inj _ _ (by omega) hy eH
    have ez:it R (zs.getD 0 0) t = (y:Int):=by omega
    rw [ez] at hz
    have:=h.same k1 hx hz hm
    subst this
    have:zs = xs:=by rw [k1] at hx;exact Option.some.inj hx
    subst this
    rw [k3] at hreg;cases hreg)
   rw [wx] at qb
   rw [row_congr h hx2 hm2 (f:=0) (by rw [qb,Nat.zero_mod])]
   rfl
theorem ls_back {r u:List Int} (h:transB r u = true):cn (shN (lsG (cyF r u) 1) (r,u)) = cn (r,u):=by
 have sw:=cycF_rows h rfl
 have s:=sw.sf
 have hin:=ab_inj sw.sf sw.rw
 have o:=cyS_ok hin (cycF r).length (Nat.le_refl _)
 have c:=cyl_ok sw.sf sw.rw (cycF r).length (Nat.le_refl _)
 obtain ⟨a,ha⟩:=pot_all (m:=lsG (cyF r u) 1) (rr:=cycF r) (ab:=abF (comm r u) u (cycF r)) rfl hin (fun i x hi hx=>by
   have e1:=List.getElem?_eq_getElem hi
   have hxN:x < (cycF r).length:=by have:=hin.rng i hi;omega
   have e2:=List.getElem?_eq_getElem hxN
   have:=ab_len sw.sf sw.rw hi hx e1 e2
   simp [wd,List.getD_eq_getElem?_getD,e1,e2,this])
  (fun x hx=>by rw [cyF_yes h];exact dvd_lsG.2 x hx) (cycF r).length (Nat.le_refl _)
 have ha2:Pot (cycF r).length (lsG (cyF r u) 1) (abF (comm r u) u (cycF r)) (wd (cycF r)) (fun _=>True) a :=
  ⟨fun i x hi _ hx=>ha.up i x hi (c.all i hi) hx,fun i hi _ hx=>ha.top i hi (c.all i hi) hx,fun i hi _ hx=>ha.bot i hi (c.all i hi) hx⟩
 have iso:=phs_iso s sw.rw ha2
 have sm:=shN_sf (s:=(r,u)) s (lsG (cyF r u) 1)
 have e1:(shN (lsG (cyF r u) 1) (r,u)).1 = r:=shN_fst _ _
 have sm2:Sf r.length r (shN (lsG (cyF r u) 1) (r,u)).2:=by
  have:=sm
  rw [e1] at this
  exact this
 have:=iso.can_eq sm2
 unfold cn
 rw [e1]
 exact this
end Go.Proofs.Ytgcnemkhppkkcaa.cy
