import Derived.Test.YtcdclihinmdgiaaZ04
import Derived.Test.YtcdclihinmdgiaaZ26
import Derived.Test.YtcdclihinmdgiaaZ19
import Derived.Test.YtcdclihinmdgiaaZ20
import Derived.Test.YtcdclihinmdgiaaZ24
import Derived.Test.YtcdclihinmdgiaaZ10
namespace Go.Proofs.Ytcdclihinmdgiaa.orb
open Go.ChangeShapes Go.WideShapes Go.ChangeAt Go.RowKit Go.Maps
open mem ints arr pm sf gl
open Go.Proofs.Ytcdclihinmdgiaa.ch (Chn)
set_option linter.unusedVariables false
set_option maxRecDepth 100000
@[simp] theorem q28 (args:Array Value) (w:World):Sem.run sqp.prog (callFunc sq.wh args) w = .ok (.enter 36 args) w:=by kernel_rfl
theorem Frc.mono {B B' c:Nat} {w w':World} (h:Frc B' c w w') (hB:B<=B'):Frc B c w w':=⟨h.os,h.tape,h.output,h.size,fun k h1 h2=>h.block k (by omega) h2⟩
theorem qvm (c:Nat) (w:World):Sem.run sqp.prog (binOp .eql 77 (.chan (some c)) (.chan none)) w = .ok (.bool false) w:=by kernel_rfl
theorem qvn (c:Nat) (w:World):Sem.run sqp.prog (binOp .eql 77 (.chan (some c)) (.chan (some c))) w = .ok (.bool true) w:=by
 have h:Sem.run sqp.prog (binOp .eql 77 (.chan (some c)) (.chan (some c))) w = .ok (.bool (some c == some c)) w:=by kernel_rfl
 rw [h]
 simp
set_option maxHeartbeats 800000 in
theorem q1y (s:Sur) (n c:Nat) (w:World) (hs:Sf n s.1 s.2) (hc:Chn w c 1000 [] false) :
  Calls sqp.prog (sq.nfn + 1) #[.chan (some c),.agg (V (gS s n)).toArray,.chan (some c),.bool true,.bool false] w fun e w' =>
   e = .returned (.tuple #[])/\Chn w' c 1000 ((finds s).map (fdV n)) true/\Frc w.heap.size c w w':=by
 have HS:=Lib.hid hs;clear hs
 have HC:=Lib.hid hc;clear hc
 have L49:=qaq s n
 go_enter sqp.q2c,sqp.qz0
 simp only [sq.goC,sq.goD,sq.qot,sq.oNo]
 have EQ:Hid (∀ W,(Op.equalIn 10000 43 (.agg (V (gS s n)).toArray) (.agg (V (gS s n)).toArray)).run sqp.prog W = .ok true W):=Lib.hid (fun W=>by have h:=qy1 HS.out HS.out W;rwa [decide_eq_true rfl] at h)
 have ST:=Lib.hid (qpm s n c)
 have hlc:=HC.out.lt
 generalize gS s n = G at *
 refine wp_seq ?_
 refine wp_region_lit ?_
 refine qd1 rfl (.tmp 1) (.tmp 1) _ rfl (V G).toArray (V G).toArray rfl rfl true (EQ.out _) ?_
 refine qck rfl (.tmp 1) rfl G L49 rfl ?_
 refine wpList_nil ?_
 simp only [Act.put,Exit.then]
 have b1:Below w.heap.size w (w.alloc (.cells (V G).toArray 43)):=(Below.refl _ _).alloc (Nat.le_refl _) _
 have C1:Hid (Chn (w.alloc (.cells (V G).toArray 43)) c 1000 [] false):=Lib.hid (HC.out.keep b1 hlc)
 have F1:Hid (Frc w.heap.size c w (w.alloc (.cells (V G).toArray 43))):=Lib.hid (Frc.of_below b1)
 generalize w.alloc (.cells (V G).toArray 43) = w1 at *
 generalize hC:Code.region 3 (sq.qey 77) false = C3
 have en:=qvm c
 have es:=qvn c
 simp only [sq.qwm,sq.opsE,sq.qdk,sq.oNo]
 go_wp2_with fail
 rename_i K3 hK3
 subst hC
 refine ch.region rfl ?_
 simp only [sq.qey,sq.oNo,List.size_toArray,List.length_cons,List.length_nil,Nat.reduceAdd,Nat.zero_add,List.range,List.range.loop]
 refine ch.Rw.q05 (c:=c) (v:=.bool true) (z':=.tuple #[]) rfl rfl (by simp [execOp,Conc.scase,Act.eval]) C1.out (by simp) (fun w2 C2 o2=>?_)
 refine ch.Rw.q06 (c:=c) (v:=.bool true) (vs:=[]) (z:=.agg (V qcb).toArray) true rfl rfl (by kernel_rfl) C2 (fun w3 C3 o3=>?_)
 refine ch.Rw.nil ?_
 simp only [Exit.then]
 refine hK3 _ _ ?_
 go_wp2_with fail
 have s1:=F1.out.size
 have F2:=F1.out.trans (Frc.qkk o2 (by omega))
 have s2:=F2.size
 have F3:=Lib.hid (F2.trans (Frc.qkk o3 (by omega)))
 refine (ST.out w3 HS.out C3).mono ?_
 rintro e w4 ⟨rfl,C4,F4⟩
 have HC4:=Lib.hid C4
 have HF4:=Lib.hid (F3.out.trans (F4.mono F3.out.size))
 clear C4 F4 F2 C3 C2 o2 o3
 go_wp2_with fail
 go_end0
 exact ⟨rfl,HC4.out,HF4.out⟩
end Go.Proofs.Ytcdclihinmdgiaa.orb

namespace Go.Proofs.Ytcdclihinmdgiaa.orb
open Go.ChangeShapes Go.WideShapes Go.ChangeAt Go.RowKit Go.Maps
open mem ints arr pm sf gl
open Go.Proofs.Ytcdclihinmdgiaa.ch (Chn)
set_option linter.unusedVariables false
set_option maxRecDepth 100000
theorem qko {ops:Array Oper} {rest:List Oper} {o:Oper} {a:Act} {w:World} {Q:Exit->Act->World->Prop} (hgd:o.guard = none) (x:Operand) (ho:o.op = .buildSlice 49 1 #[(0,x)])
  (L:List Int) (hL:L.length = 51) (hx:a.eval x = .agg (V L).toArray)
  (h:wpList sqp.prog ops Q rest (a.put o.dst (.slice (some ⟨w.heap.size,0,none⟩) 1 1)) (w.alloc (.cells (V L).toArray 55))):wpList sqp.prog ops Q (o :: rest) a w:=by
 obtain ⟨i,hi,hz,hs,hb⟩:=info_parts qn7
 refine wpList_buildSlice hgd 49 55 1 _ ho (V L).toArray i _ sqp.underlying49 hi hz (by rw [hs];decide) (by rw [hs];decide) ?_ h
 rw [hs]
 have:=Great.fill_whole (s:=51) (by decide) [.agg (V L).toArray] ((Array.range (1 * 51)).map ((Value.agg (V qcb).toArray).cells[· % (Value.agg (V qcb).toArray).cells.size]!)) (by simp [Value.cells,q8,hL]) (by simp)
 simpa [hx,Value.cells] using this
def qpn (n:Nat) (xs:List Fd):List Value:=xs.flatMap fun x=>V (fdL x.1 n x.2.1 x.2.2)
theorem qvo (n:Nat) (xs:List Fd) (x:Fd):qpn n (xs ++ [x]) = qpn n xs ++ V (fdL x.1 n x.2.1 x.2.2):=by simp [qpn]
def q10 (r u:List Int) (w:World) (e:Ending) (w':World):Prop :=
 Below w.heap.size w w' ∧
 ((zh r u = true/\(finds (r,u)).length<=120/\∃ A cp,e = .returned (.tuple #[.slice A (finds (r,u)).length cp,.bool true])/\w'.ownsRow w.heap.size 55 51 (.slice A (finds (r,u)).length cp) (finds (r,u)).length (qpn r.length (finds (r,u)))) ∨
  ((zh r u = false\/120 < (finds (r,u)).length)/\e = .returned (.tuple #[.slice none 0 0,.bool false])))
set_option maxHeartbeats 2000000 in
theorem ql8 (v:Value) (r u:List Int) (hi:Nat) (w:World) (hx:Srd w hi v r u) (hn:r.length<=1048576) (hm:u.length<=1048576) :
  Calls sqp.prog 16 #[v] w fun e w'=>q10 r u w e w':=by
 have HX:=Lib.hid hx
 obtain ⟨P,n,c,Q,m,d,rfl,q1,q2,e1,e2,ht,HR⟩:=hx.open
 have L1:=Lib.hid q1
 clear hx
 have hmc:=fun w=>ch.mk (P:=sqp.prog) sqp.underlying77 (B:=408) (by kernel_rfl) 1000 (by omega) (by omega) 1000 rfl w
 go_enter sqp.func16,sqp.ntmps16
 simp only [sq.qll,sq.qfq,List.map_toArray,List.map_cons,List.map_nil]
 generalize hR:Code.region 8 #[{ dst:=some 20,op:=Op.recv 77 (Operand.tmp 19) true,type:=0,pos:="l06_orbit.go:55",after:=#[],guard:=none },{ dst:=some 21,op:=Op.extract (Operand.tmp 20) 1,type:=4,pos:="l06_orbit.go:55",after:=#[{ on:=0,ground:=Ground.data }],guard:=none }] false = C8
 go_wp2_with fail
 refine (qj2 _ r u hi _ (HX.out.keep ((Below.refl hi w).alloc ht _) (Nat.le_refl _)) hn hm).mono ?_
 rintro e w1 ⟨rfl,b1⟩
 have B1:=Lib.hid (qoa _ _ b1);clear b1
 cases hq:zh r u
 ·have HQ:=Lib.hid hq
  clear hq
  go_wp2_with (first | (refine wpList_store_row rfl 43 _ _ rfl w1.heap.size (V (glv r u)).toArray rfl rfl 43 (V qp).toArray (Arr.new w1 (V qp) _ rfl) (zu (qie _ _)) (by simp [q8,qie,qp]) (zy _) ?_;generalize hw2:(w1.alloc (.cells #[.int .i64 0,.int .i64 0,.int .i64 0,.int .i64 0,.int .i64 0,.int .i64 0,.int .i64 0,.int .i64 0,.int .i64 0,.int .i64 0,.int .i64 0,.int .i64 0,.int .i64 0,.int .i64 0,.int .i64 0,.int .i64 0,.int .i64 0,.int .i64 0,.int .i64 0,.int .i64 0,.int .i64 0,.int .i64 0,.int .i64 0,.int .i64 0,.int .i64 0,.int .i64 0,.int .i64 0,.int .i64 0,.int .i64 0,.int .i64 0,.int .i64 0,.int .i64 0,.int .i64 0,.int .i64 0,.int .i64 0,.int .i64 0,.int .i64 0,.int .i64 0,.int .i64 0,.int .i64 0,.int .i64 0,.int .i64 0,.int .i64 0,.int .i64 0,.int .i64 0,.int .i64 0,.int .i64 0,.int .i64 0,.int .i64 0] 43)).setRow w1.heap.size (V (glv r u)).toArray = w2;have A2:Hid (Arr w2 w1.heap.size (V (glv r u)) 43):=Lib.hid (by rw [<-hw2];exact (Arr.new w1 (V qp) _ rfl).row);have b1:Below w1.heap.size w1 w2:=(by rw [<-hw2];exact arr.below_setRow ((Below.refl _ _).alloc (Nat.le_refl _) _) (Nat.le_refl _) _);have s2:=b1.size;replace B1:Hid (Below w.heap.size w w2):=Lib.hid (B1.out.trans (b1.mono B1.out.size));clear hw2 b1) | fail)
  go_ret2
  exact ⟨B1.out,.inr ⟨.inl HQ.out,rfl⟩⟩
 ·have HQ:=Lib.hid hq
  have HS:Hid (Sf n r u):=Lib.hid (by have:=ku.1 hq;rwa [L1.out] at this)
  have HG:Hid (glv r u = gS (r,u) n):=Lib.hid (by rw [qrf hq,L1.out];rfl)
  have HGO:=Lib.hid (q1y (r,u) n)
  clear hq
  go_wp2_with (first | (refine wpList_store_row rfl 43 _ _ rfl w1.heap.size (V (glv r u)).toArray rfl rfl 43 (V qp).toArray (Arr.new w1 (V qp) _ rfl) (zu (qie _ _)) (by simp [q8,qie,qp]) (zy _) ?_;generalize hw2:(w1.alloc (.cells #[.int .i64 0,.int .i64 0,.int .i64 0,.int .i64 0,.int .i64 0,.int .i64 0,.int .i64 0,.int .i64 0,.int .i64 0,.int .i64 0,.int .i64 0,.int .i64 0,.int .i64 0,.int .i64 0,.int .i64 0,.int .i64 0,.int .i64 0,.int .i64 0,.int .i64 0,.int .i64 0,.int .i64 0,.int .i64 0,.int .i64 0,.int .i64 0,.int .i64 0,.int .i64 0,.int .i64 0,.int .i64 0,.int .i64 0,.int .i64 0,.int .i64 0,.int .i64 0,.int .i64 0,.int .i64 0,.int .i64 0,.int .i64 0,.int .i64 0,.int .i64 0,.int .i64 0,.int .i64 0,.int .i64 0,.int .i64 0,.int .i64 0,.int .i64 0,.int .i64 0,.int .i64 0,.int .i64 0,.int .i64 0,.int .i64 0] 43)).setRow w1.heap.size (V (glv r u)).toArray = w2;have A2:Hid (Arr w2 w1.heap.size (V (glv r u)) 43):=Lib.hid (by rw [<-hw2];exact (Arr.new w1 (V qp) _ rfl).row);have b1:Below w1.heap.size w1 w2:=(by rw [<-hw2];exact arr.below_setRow ((Below.refl _ _).alloc (Nat.le_refl _) _) (Nat.le_refl _) _);have s2:=b1.size;replace B1:Hid (Below w.heap.size w w2):=Lib.hid (B1.out.trans (b1.mono B1.out.size));clear hw2 b1;rw [HG.out] at A2) | (refine wpList_load_row rfl 43 _ rfl w1.heap.size rfl 43 (V (gS (r,u) n)).toArray (0,0) _ ((A2.out).alloc _) sqp.underlying43 rfl (zu (qaq _ _)) ?_) | fail)
  have bc:Below w2.heap.size w2 (w2.alloc (.chan 1000 #[] false 0 0 false)):=(Below.refl _ _).alloc (Nat.le_refl _) _
  have szc:(w2.alloc (.chan 1000 #[] false 0 0 false)).heap.size = w2.heap.size + 1:=by simp
  have NC:=ch.Chn.new w2 1000
  have hw2:=B1.out.size
  generalize hcc:w2.heap.size = cc at *
  refine (HGO.out cc _ HS.out NC).mono ?_
  rintro e w4 ⟨rfl,hch,hfr⟩
  have CH:=Lib.hid hch
  have B4:Hid (Below w.heap.size w w4):=Lib.hid ⟨hfr.os.trans (bc.os.trans B1.out.os),hfr.tape.trans (bc.tape.trans B1.out.tape),hfr.output.trans (bc.output.trans B1.out.output),by have:=hfr.size;omega,fun k hk=>(hfr.block k (by omega) (by omega)).trans ((bc.block k (by omega)).trans (B1.out.block k hk))⟩
  have sz4:=hfr.size
  clear hch hfr NC bc HGO A2 hmc
  have FL:=ql7 (r,u)
  go_wp2_with fail
  subst hR
  go_loopw [7] (fun v7 wr=>∃ (j:Nat) (A:Option Addr) (cp:Nat),v7 = .slice A j cp/\j<=(finds (r,u)).length/\wr.ownsRow w.heap.size 55 51 v7 j (qpn n ((finds (r,u)).take j))/\Chn wr cc 1000 (((finds (r,u)).drop j).map (fdV n)) true/\Below w.heap.size w wr/\(∀ b,v7.ownBlock = some b->b ≠ cc)) (fun v7 _=>(finds (r,u)).length + 1 - qji v7)
  case atStart=>exact ⟨0,none,0,rfl,by omega,⟨rfl,.inl ⟨rfl,rfl⟩⟩,by rw [List.drop_zero];exact CH.out,B4.out,fun b hb=>by simp [Value.ownBlock] at hb⟩
  case round =>
   obtain ⟨j,A,cp,rfl,hj,hrow,hch,hbl,hnc⟩:=hrel
   have HRW:=Lib.hid hrow
   have HCH:=Lib.hid hch
   have HBL:=Lib.hid hbl
   have HNC:=Lib.hid hnc
   clear hrow hch hbl hnc
   refine wp_seq ?_
   refine ch.region rfl ?_
   simp only [List.size_toArray,List.length_cons,List.length_nil,Nat.reduceAdd,Nat.zero_add,List.range,List.range.loop]
   by_cases hjl:j < (finds (r,u)).length
   ·have hd:(finds (r,u)).drop j = (finds (r,u))[j] :: (finds (r,u)).drop (j + 1):=List.drop_eq_getElem_cons hjl
    rw [hd,List.map_cons] at HCH
    refine ch.Rw.q06 (c:=cc) (z:=.agg (V qcb).toArray) true rfl rfl (by kernel_rfl) HCH.out (fun w5 C5 o5=>?_)
    simp only [Go.Conc.got,if_true]
    refine ch.Rw.plain (w':=w5) (v:=.bool true) rfl rfl (by kernel_rfl) ?_
    refine ch.Rw.nil ?_
    simp only [Exit.then]
    generalize hx:(finds (r,u))[j] = x at *
    have hx':(finds (r,u))[j]? = some x:=by rw [List.getElem?_eq_getElem hjl,hx]
    have L51:=qb0 x.1 n x.2.1 x.2.2
    have hfd:fdV n x = .agg (V (fdL x.1 n x.2.1 x.2.2)).toArray:=rfl
    rw [hfd]
    have L51:=qb0 x.1 n x.2.1 x.2.2
    have HRW5:Hid (w5.ownsRow w.heap.size 55 51 (.slice A j cp) j (qpn n ((finds (r,u)).take j))):=Lib.hid (qg HRW.out (fun b hb=>o5.block b (World.ownsRow.lt HRW.out b hb).2 (by have:=HNC.out b hb;omega)))
    have HB5:Hid (∀ b,(Value.slice A j cp).ownBlock = some b->w.heap.size<=b/\b < w5.heap.size):=Lib.hid (fun b hb=>World.ownsRow.lt HRW5.out b hb)
    have BL5:Hid (Below w.heap.size w w5):=Lib.hid ⟨o5.os.trans HBL.out.os,o5.tape.trans HBL.out.tape,o5.output.trans HBL.out.output,by have:=o5.size;have:=HBL.out.size;omega,fun k hk=>(o5.block k (by have:=HBL.out.size;omega) (by omega)).trans (HBL.out.block k hk)⟩
    have CC5:=Lib.hid C5
    have hc5:=C5.lt
    have hb5:=BL5.out.size
    clear HRW HCH HBL C5 o5
    generalize hLX:fdL x.1 n x.2.1 x.2.2 = LX at *
    obtain ⟨i0,hi0,hz0,hz1,hz2⟩:=info_parts qn7
    go_wp2_with (first | (refine wpList_store_row rfl 55 _ _ rfl w5.heap.size (V LX).toArray rfl rfl 55 (V qcb).toArray (Arr.new w5 (V qcb) _ rfl) (qn8 L51) (by simp [q8,L51,qcb]) (zy _) ?_;generalize hw6:(w5.alloc (.cells #[.int .i64 0,.int .i64 0,.int .i64 0,.int .i64 0,.int .i64 0,.int .i64 0,.int .i64 0,.int .i64 0,.int .i64 0,.int .i64 0,.int .i64 0,.int .i64 0,.int .i64 0,.int .i64 0,.int .i64 0,.int .i64 0,.int .i64 0,.int .i64 0,.int .i64 0,.int .i64 0,.int .i64 0,.int .i64 0,.int .i64 0,.int .i64 0,.int .i64 0,.int .i64 0,.int .i64 0,.int .i64 0,.int .i64 0,.int .i64 0,.int .i64 0,.int .i64 0,.int .i64 0,.int .i64 0,.int .i64 0,.int .i64 0,.int .i64 0,.int .i64 0,.int .i64 0,.int .i64 0,.int .i64 0,.int .i64 0,.int .i64 0,.int .i64 0,.int .i64 0,.int .i64 0,.int .i64 0,.int .i64 0,.int .i64 0,.int .i64 0,.int .i64 0] 55)).setRow w5.heap.size (V LX).toArray = w6;have A6:Hid (Arr w6 w5.heap.size (V LX) 55):=Lib.hid (by rw [<-hw6];exact (Arr.new w5 (V qcb) _ rfl).row);have b6:Below w5.heap.size w5 w6:=(by rw [<-hw6];exact arr.below_setRow ((Below.refl _ _).alloc (Nat.le_refl _) _) (Nat.le_refl _) _);have s6:=b6.size;have HRW6:Hid (w6.ownsRow w.heap.size 55 51 (.slice A j cp) j (qpn n ((finds (r,u)).take j))):=Lib.hid (qg HRW5.out (fun b hb=>b6.block b (HB5.out b hb).2));have CC6:=Lib.hid (CC5.out.keep b6 hc5);have BL6:=Lib.hid (BL5.out.trans (b6.mono hb5));clear hw6 b6) | (refine wpList_load_row rfl 55 _ rfl w5.heap.size rfl 55 (V LX).toArray (0,0) _ A6.out sqp.underlying55 rfl (qn8 L51) ?_) | (refine qko rfl _ rfl LX L51 rfl ?_) | (at_builtin;refine wpList_append_lies (w6.alloc (.cells (V LX).toArray 55)) rfl _ _ 49 rfl w.heap.size 55 i0 _ 51 408 sqp.underlying49 hi0 hz0 hz1 hz2 rfl (by decide) (.slice A j cp) j (qpn n ((finds (r,u)).take j)) rfl (HRW6.out.alloc _) ⟨w6.heap.size,0,none⟩ 1 1 (V LX) rfl (by simp [q8,L51]) ?hn ?h1 (by decide) ?c4 ?c5 ?c6 _ rfl ?_) | fail)
    case hn =>
     intro q z hz
     have h:=(Arr.new w6 (V LX) 55 rfl).cell hz
     have e:(⟨w6.heap.size,0,none⟩:Addr).add q = ⟨w6.heap.size,q,none⟩:=by unfold Addr.add;split <;> simp_all
     rw [e]
     exact h
    case h1=>intro q hq;obtain ⟨z,_,rfl⟩:=List.mem_map.1 hq;rfl
    case c4=>unfold maxLen;omega
    case c5=>omega
    case c6=>first | omega | (simp;omega)
    intro g7 cap7 w7 ho hg hb hlt7
    have hsz6:(w6.alloc (.cells (V LX).toArray 55)).heap.size = w6.heap.size + 1:=by simp
    have b7:Below w6.heap.size w6 (w6.alloc (.cells (V LX).toArray 55)):=(Below.refl _ _).alloc (Nat.le_refl _) _
    have hc6:=CC6.out.lt
    have CC7:=Lib.hid (qgb (CC6.out.keep b7 hc6) hg (fun e=>HNC.out cc e.symm rfl))
    have BL7:Hid (Below w.heap.size w w7):=Lib.hid (((BL6.out.trans (b7.mono BL6.out.size))).trans ⟨hg.os,hg.tape,hg.output,hg.size,fun k hk=>hg.block k (by omega) (fun e=>by have:=(HB5.out k e.symm).1;omega)⟩)
    have OW7:=Lib.hid ho
    have G7:Hid (g7 ≠ cc):=Lib.hid (fun e=>by
     rcases hb with q | q
     ·exact HNC.out g7 q e
     ·omega)
    clear ho hg hb CC6 BL6 HRW6 A6 b7
    go_wp2_with fail
    go_roundw
    case rel =>
     refine ⟨j + 1,some ⟨g7,0,none⟩,cap7,rfl,by omega,?_,CC7.out,BL7.out,fun b hb=>?_⟩
     ·rw [List.take_add_one,hx',Option.toList_some,qvo,hLX];exact OW7.out
     ·have e:g7 = b:=by simpa [Value.ownBlock] using hb
      subst e;exact G7.out
    case measure=>simp [qji];omega
   ·have HEJ:Hid ((finds (r,u)).length = j):=Lib.hid (by omega)
    have HCH0:Hid (Chn wr cc 1000 [] true):=Lib.hid (by have h:=HCH.out;rwa [<-HEJ.out,List.drop_length,List.map_nil] at h)
    have HRW0:Hid (wr.ownsRow w.heap.size 55 51 (.slice A j cp) j (qpn n (finds (r,u)))):=Lib.hid (by have h:=HRW.out;rwa [<-HEJ.out,List.take_length,HEJ.out] at h)
    clear HCH HRW hjl hj FL CH
    refine ch.Rw.q3e (c:=cc) (z:=.agg (V qcb).toArray) true rfl rfl (by kernel_rfl) HCH0.out ?_
    simp only [Go.Conc.got,if_true]
    refine ch.Rw.plain (w':=wr) (v:=.bool false) rfl rfl (by kernel_rfl) ?_
    refine ch.Rw.nil ?_
    simp only [Exit.then]
    have hL:r.length = n:=L1.out
    by_cases hl:j<=120
    ·go_wp2_with fail
     go_ret2
     exact ⟨HBL.out,.inl ⟨HQ.out,by rw [HEJ.out];exact hl,A,cp,by (rw [HEJ.out] <;> rfl),by rw [hL,HEJ.out];exact HRW0.out⟩⟩
    ·go_wp2_with fail
     go_ret2
     exact ⟨HBL.out,.inr ⟨.inr (by rw [HEJ.out];omega),rfl⟩⟩
end Go.Proofs.Ytcdclihinmdgiaa.orb

namespace Go.Proofs.Ytcdclihinmdgiaa.orb
open Go.ChangeShapes Go.WideShapes Go.ChangeAt Go.RowKit
open mem ints arr pm sf gl
set_option linter.unusedVariables false
set_option maxRecDepth 100000
end Go.Proofs.Ytcdclihinmdgiaa.orb

namespace Go.Proofs.Ytcdclihinmdgiaa.orb
open Go.ChangeShapes Go.WideShapes Go.ChangeAt Go.RowKit Go.Maps
open mem ints arr pm sf gl
set_option linter.unusedVariables false
set_option maxRecDepth 100000
theorem qzn {n:Nat} {xs:List Fd} {k:Nat} {x:Fd} (hx:xs[k]? = some x):∀ (j:Nat) v,(V (fdL x.1 n x.2.1 x.2.2))[j]? = some v->(qpn n xs)[k * 51 + j]? = some v:=by
 induction xs generalizing k with
 | nil=>simp at hx
 | cons y ys ih =>
  intro j v hj
  have hl:j < 51:=by have:=(List.getElem?_eq_some_iff.1 hj).1;rwa [q8,qb0] at this
  have e:qpn n (y :: ys) = V (fdL y.1 n y.2.1 y.2.2) ++ qpn n ys:=rfl
  have ly:(V (fdL y.1 n y.2.1 y.2.2)).length = 51:=by rw [q8,qb0]
  rw [e]
  cases k with
  | zero =>
   obtain rfl:y = x:=by simpa using hx
   rw [List.getElem?_append_left (by omega),Nat.zero_mul,Nat.zero_add]
   exact hj
  | succ k =>
   rw [List.getElem?_append_right (by rw [ly];omega),ly,show (k + 1) * 51 + j - 51 = k * 51 + j by omega]
   exact ih (by simpa using hx) j v hj
theorem qzo {w:World} {B n:Nat} {xs:List Fd} {A:Option Addr} {cp m:Nat} (h:w.ownsRow B 55 51 (.slice A m cp) m (qpn n xs)) (hm:m = xs.length) (h0:0 < m) :
  ∃ g,A = some ⟨g,0,none⟩/\g < w.heap.size/\∀ (k:Nat) x,xs[k]? = some x->∀ (j:Nat) v,(V (fdL x.1 n x.2.1 x.2.2))[j]? = some v->w.cell? ⟨g,k * 51 + j,none⟩ = some v:=by
 subst hm
 rcases h.2 with ⟨_,q⟩ | ⟨g,cap,cur,q1,q2,q3,q4,q5,q6,q7⟩
 ·omega
 ·injection q1 with e1 e2 e3
  refine ⟨g,e1,?_,fun k x hx j v hj=>?_⟩
  ·rcases Nat.lt_or_ge g w.heap.size with hlt | hge
   ·exact hlt
   ·rw [Array.getElem?_eq_none hge] at q3;cases q3
  have h1:=qzn (n:=n) hx j v hj
  rw [cell_of_row w g _ cur _ _ q3]
  have h2:(List.take (xs.length * 51) cur.toList)[k * 51 + j]? = some v:=by rw [q7];exact h1
  rw [List.getElem?_take] at h2
  split at h2
  ·simpa using h2
  ·cases h2
theorem qvp {r u:List Int} (h:zh r u = true) (hl:(finds (r,u)).length<=120) :
  ∃ q,qd2 r u = some q/\Fq (finds (r,u)) q/\q3k r u = (finds (r,u)).map Prod.fst/\q3l r u = true/\Oi r.length q/\∀ x ∈ finds (r,u),Sf r.length x.1.1 x.1.2:=by
 rcases qkl (r,u) with ⟨a,b⟩ | ⟨a,q,b,c⟩
 ·omega
 ·have e:qd2 r u = some q:=by rw [qu7 h];exact b
  obtain ⟨x,y⟩:=qr5 e
  obtain ⟨z1,z2,z3⟩:=qu8 e
  refine ⟨q,e,c,by rw [x,c.fst],y,z2,fun f hf=>z2.sf f.1 (by rw [c.fst];exact List.mem_map_of_mem hf)⟩
theorem qsj:∀ (f k:Nat) (xs:List Fd),xs.length<=(qiw f k xs).length
 | 0,_,xs=>Nat.le_refl _
 | f + 1,k,xs=>by
  rw [qiw]
  split
  ·exact Nat.le_trans (qfi k xs).1 (qsj f (k + 1) (qsf k xs))
  ·exact Nat.le_refl _
theorem qsk (s:Sur):0 < (finds s).length:=Nat.lt_of_lt_of_le (by simp) (qsj 122 0 [(cn s,0,0)])
end Go.Proofs.Ytcdclihinmdgiaa.orb

namespace Go.Proofs.Ytcdclihinmdgiaa.lst
open Go.ChangeShapes Go.WideShapes Go.ChangeAt Go.RowKit
open mem ints arr pm sf gl orb Go.Proofs.Ytcdclihinmdgiaa.wd
set_option linter.unusedVariables false
set_option maxRecDepth 100000
theorem qro (s:Sur) (n p l:Nat):(sqp.prog.info? 55).map (·.size) = some (V (fdL s n p l)).toArray.size:=qn8 (qb0 s n p l)
theorem qyx {s:Sur} {n p l:Nat} {j:Nat} {v:Value} (h:(V (gS s n))[j]? = some v):(V (fdL s n p l))[j]? = some v:=by
 have hj:=(List.getElem?_eq_some_iff.1 h).1
 have e:V (fdL s n p l) = V (gS s n) ++ V [(p:Int),(l:Int)]:=by simp [V,fdL]
 rw [e,List.getElem?_append_left hj]
 exact h
theorem qf4 {ops:Array Oper} {S:World->Prop} {op:Oper} {a:Act} (hgd:op.guard = none) (x y:Operand) (rt:TypeId) (ho:op.op = .binOp .eql 43 x y rt)
  (xs ys:Array Value) (hx:a.eval x = .agg xs) (hy:a.eval y = .agg ys) (b:Bool) (he:∀ w,(Op.equalIn 10000 43 (.agg xs) (.agg ys)).run sqp.prog w = .ok b w):YieldsIf sqp.prog ops S op (.bool b) a :=
 .inl ⟨by simp [Region.wanted,hgd],fun w _=>by
  unfold execOp
  simp only [ho,hx,hy,Sem.run_bind,run_eqGuard_agg w .eql _ x y xs ys (show sqp.prog.eqGuardType sqp.prog.depth 43 = false by kernel_rfl),Result.andThen_ok,run_eql_struct,he,Sem.run_pure]⟩
theorem q1k (n:Int):(swF n).foldl uq [] = orF n/\∀ s ∈ swF n,Or1 n.toNat s:=by
 by_cases hr:1<=n/\n<=4
 ·have e:swF n = swL n.toNat:=if_pos hr
  have e2:orF n = orL n.toNat:=if_pos hr
  rw [e,e2]
  exact q1i (by omega) (by omega)
 ·rw [qqs hr,qrl hr]
  exact ⟨rfl,fun s hs=>by simp at hs⟩
theorem qut {n:Nat} {s:Sur} (h:Or1 n s):(finds s).length<=120/\orI s = qhp [] ((finds s).map Prod.fst):=by
 obtain ⟨q,h1,h2⟩:=h.orb
 rcases qkl s with ⟨a,b⟩ | ⟨a,q',b,c⟩
 ·rw [h1] at b;cases b
 ·rw [h1] at b
  obtain rfl:=Option.some.inj b
  exact ⟨a,by rw [h2,c.fst]⟩
set_option maxHeartbeats 8000000 in
theorem qrp (n:Int) (w:World):Calls sqp.prog 5 #[.int .i64 n] w (qxf (orF n) w):=by
 obtain ⟨ei,er⟩:=q1k n
 have EF:=Lib.hid ei;have OR:=Lib.hid er;clear ei er
 have HSF:=Lib.hid (q04 (n:=n))
 have hlen:=qyh n
 obtain ⟨i0,hi0,hz0,hz1,hz2⟩:=info_parts qxe
 have zc:((Value.slice none 0 0).cells).size = 1:=by kernel_rfl
 go_enter sqp.func5,sqp.ntmps5
 go_wp2_with (first | (refine gl.wpList_build rfl 46 _ rfl [(1,(.func (.func 14) #[] #[]))] rfl _ qw6 ?_) | (refine zi rfl 46 _ _ rfl [.slice none 0 0,(.func (.func 14) #[] #[])] #[.slice none 0 0,.nilFunc] rfl rfl q03 rfl (by simp [Value.oneCell']) ?_;intro w1 b1 a1 s1))
 refine (qid n _).mono ?_
 rintro e w2 ⟨vp,rfl,ro,bel⟩
 have hb:=a1.lt
 have s2:=bel.size
 obtain ⟨AF,cF,rfl⟩:=mem.za ro
 have AS0:Hid (As w2 w.heap.size w.heap.size n.toNat (.slice none 0 0) []):=Lib.hid ⟨a1.keep bel a1.lt,⟨rfl,.inl ⟨rfl,rfl⟩⟩,fun e=>by simp [Value.ownBlock] at e,List.Pairwise.nil,fun y hy=>by simp at hy⟩
 have B2:Hid (Below w.heap.size w w2):=Lib.hid (b1.trans (bel.mono (by omega)))
 have RO:=Lib.hid ro
 have S0:Hid (Sv w2 w2.heap.size w2.heap.size (.slice none 0 0) 0 [] (fun _=>(0,0)) (RL w2 [])):=Lib.hid ⟨⟨rfl,.inl ⟨rfl,rfl⟩⟩,rfl,Nat.le_refl _,fun b e=>by simp [Value.ownBlock] at e,fun j hj=>absurd hj (Nat.not_lt_zero _),fun i j _ hj=>absurd hj (Nat.not_lt_zero _)⟩
 clear ro bel a1 b1
 generalize hN:n.toNat = N at *
 generalize hL:swF n = L at *
 generalize hbb:w.heap.size = bb at *
 go_wp2_with fail
 go_loopw [3,16] (fun vo i wr=>∃ (a:Nat) (v:Value) (hs:List Value) (iv:Nat->Nat × Nat),a<=L.length/\i = .int .i64 a/\As wr bb bb N v []/\(∀ k,v.ownBlock = some k->w2.heap.size<=k/\off vo ((L.take a).foldl uq []).length iv k)/\Sv wr w2.heap.size wr.heap.size vo ((L.take a).foldl uq []).length hs iv (RL wr ((L.take a).foldl uq []))/\((L.take a).foldl uq []).length<=a/\Out bb (bb + 1) w2 wr) (fun _ i _=>L.length - (intOf i).toNat)
 case atStart=>exact ⟨0,_,[],fun _=>(0,0),Nat.zero_le _,rfl,AS0.out,fun k e=>by simp [Value.ownBlock] at e,S0.out,Nat.le_refl _,Out.refl _ _ _⟩
 case round =>
  obtain ⟨a,v,hs,iv,ha,rfl,ak,ov,sv,al,ho⟩:=hrel
  have AS:=Lib.hid ak;have OV:=Lib.hid ov;have SV:=Lib.hid sv;have HO:=Lib.hid ho;clear ak ov sv ho AS0 S0
  have swr:=HO.out.size
  obtain ⟨Ao,co,rfl⟩:=mem.za SV.out.own
  by_cases hlt:a < L.length
  ·obtain ⟨s,hx⟩:∃ s,L[a]? = some s:=⟨_,List.getElem?_eq_getElem hlt⟩
   have hin:=List.mem_of_getElem? hx
   have SS:=Lib.hid (HSF.out s hin);have O1:=Lib.hid (OR.out s hin)
   have ET:Hid ((L.take (a + 1)).foldl uq [] = uq ((L.take a).foldl uq []) s):=Lib.hid (qrk hx)
   have hA:∃ g,AF = some ⟨g,0,none⟩/\bb + 1<=g/\g < w2.heap.size:=by
    rcases RO.out.2 with ⟨q,q2⟩ | ⟨g,cap,cur,q,q1,h2,_⟩
    ·omega
    ·injection q with q1' q2 q3
     exact ⟨g,q1',by omega,(Array.getElem?_eq_some_iff.1 h2).1⟩
   obtain ⟨g,rfl,hg1,hg⟩:=hA
   have HC:Hid (∀ (j:Nat) u,(V (gS s N))[j]? = some u->wr.cell? ⟨g,a * 49 + j,none⟩ = some u):=Lib.hid (fun j u hu=>by
    rw [World.cell?_of_block (w:=w2) (a:=⟨g,a * 49 + j,none⟩) (HO.out.block g hg (.inr hg1))]
    exact qav RO.out _ u (qjs N hx j u hu))
   have HSZ:(sqp.prog.info? 43).map (·.size) = some (V (gS s N)).length:=hiS s N
   have HS2:(sqp.prog.info? 43).map (·.size) = some (V (gS s N)).toArray.size:=zu (qaq s N)
   have HZ:(#[.int .i64 0,.int .i64 0,.int .i64 0,.int .i64 0,.int .i64 0,.int .i64 0,.int .i64 0,.int .i64 0,.int .i64 0,.int .i64 0,.int .i64 0,.int .i64 0,.int .i64 0,.int .i64 0,.int .i64 0,.int .i64 0,.int .i64 0,.int .i64 0,.int .i64 0,.int .i64 0,.int .i64 0,.int .i64 0,.int .i64 0,.int .i64 0,.int .i64 0,.int .i64 0,.int .i64 0,.int .i64 0,.int .i64 0,.int .i64 0,.int .i64 0,.int .i64 0,.int .i64 0,.int .i64 0,.int .i64 0,.int .i64 0,.int .i64 0,.int .i64 0,.int .i64 0,.int .i64 0,.int .i64 0,.int .i64 0,.int .i64 0,.int .i64 0,.int .i64 0,.int .i64 0,.int .i64 0,.int .i64 0,.int .i64 0]:Array Value).size = (V (gS s N)).toArray.size:=by simp [qaw]
   generalize (L.take a).foldl uq [] = acc at *
   clear hx hin
   go_wp2_with (first | (refine qz rfl 43 _ rfl g (a * 49) rfl (V (gS s N)) _ HC.out sqp.underlying43 rfl HSZ ?_) | (refine zi rfl 43 _ _ rfl (V (gS s N)) _ rfl rfl HS2 HZ (zy _) ?_;intro wx bx ax sx_) | (refine wpList_load_row rfl 43 _ rfl wr.heap.size rfl 43 (V (gS s N)).toArray (0,0) _ ax sqp.underlying43 rfl HS2 ?_))
   refine (qf3 (ext s.1) (ext s.2) N _ (qc _) (qc _) (quc SS.out)).mono ?_
   rintro e wy ⟨gv,rfl,sg,by_⟩
   rw [qbt SS.out.lr (quc SS.out),qbt SS.out.lu (quc SS.out)] at sg
   have n24:=quc SS.out
   have z1:=SS.out.lr;have z2:=SS.out.lu
   have SRD:=Lib.hid (sf.Svl.rd sg)
   have AX:=Lib.hid (ax.keep by_ ax.lt)
   have B34:=Lib.hid (bx.trans (by_.mono bx.size))
   have swx:=bx.size;have swy:=by_.size
   have hbx:=ax.lt
   clear ax bx sx_ by_ sg HC
   go_wp2_with fail
   refine (ql8 _ s.1 s.2 _ _ SRD.out (by omega) (by omega)).mono ?_
   rintro e w5 ⟨b5,h⟩
   obtain ⟨f120,efi⟩:=qut O1.out
   rcases h with ⟨h1,h2,A,cp,rfl,h3⟩ | ⟨h1,rfl⟩
   case inr =>
    exfalso
    rcases h1 with z | z
    ·have:zh s.1 s.2 = true:=ku.2 (by rw [z1];exact SS.out)
     rw [z] at this;cases this
    ·rw [show (s.1,s.2) = s from rfl] at z;omega
   obtain ⟨_,_,_,_,_,_,hsf⟩:=qvp h1 h2
   rw [show (s.1,s.2) = s from rfl] at h2 h3 hsf ⊢
   rw [z1] at h3 hsf
   have HP:=qsk s
   obtain ⟨g5,rfl,hg5,hcell⟩:=qzo h3 rfl HP
   have hg5l:=(h3.lt g5 rfl).1
   have OVL:∀ k,v.ownBlock = some k->k < wr.heap.size:=fun k e=>(AS.out.own.lt k e).2
   have HC5:=Lib.hid hcell;have HSX:=Lib.hid hsf;have EFI:=Lib.hid efi
   have s5:=b5.size
   have AX5:=Lib.hid (AX.out.keep b5 AX.out.lt)
   have B35:=Lib.hid (B34.out.trans (b5.mono (by omega)))
   clear h1 h3 hcell hsf efi b5 AX B34 SRD
   generalize finds s = xs at *
   have AS5:=Lib.hid (AS.out.keep B35.out)
   have SV5:Hid (Sv w5 w2.heap.size wr.heap.size (.slice Ao acc.length co) acc.length hs iv (RL w5 acc)):=Lib.hid (SV.out.keep B35.out (Nat.le_refl _) (fun _ _ _ _ _ _ q r=>r.keep B35.out q))
   have OFB:Hid (off (.slice Ao acc.length co) acc.length iv bb):=Lib.hid ⟨fun e=>by have:=(SV.out.own.lt bb e).1;omega,fun j hj=>by obtain ⟨_,_,_,_,z,_⟩:=SV.out.row j hj;exact .inl (by omega)⟩
   have VBO:∀ k,(Value.slice Ao acc.length co).ownBlock = some k->w2.heap.size<=k/\k < wr.heap.size:=fun k e=>⟨(SV.out.own.lt k e).1,SV.out.vlt k e⟩
   clear AS SV
   generalize hwrs:wr.heap.size = bx at *
   go_wp2_with fail
   obtain ⟨wq,rfl⟩:∃ wq:World,wq = wr:=⟨_,rfl⟩
   go_loopw [28] (fun i wi=>∃ (k:Nat) (v':Value),k<=xs.length/\i = .int .i64 k/\As wi bb bb N v' (qhp [] ((xs.map Prod.fst).take k))/\Fr w5 wi bb v v') (fun i _=>xs.length - (intOf i).toNat)
   case atStart=>exact ⟨0,v,Nat.zero_le _,rfl,AS5.out,Fr.of _ _ (Below.refl _ _)⟩
   case round =>
    obtain ⟨k,v',hk,rfl,ak,fr⟩:=hrel
    have AK:=Lib.hid ak;have FR:=Lib.hid fr;clear ak fr AS5
    have swi:=FR.out.size
    have il:(qhp [] ((xs.map Prod.fst).take k)).length<=120:=by
     have:=qnq ((xs.map Prod.fst).take k) []
     rw [List.length_take,List.length_map] at this;simp at this;omega
    by_cases hkl:k < xs.length
    ·obtain ⟨x,hxk⟩:∃ x,xs[k]? = some x:=⟨_,List.getElem?_eq_getElem hkl⟩
     have SX:=Lib.hid (HSX.out x (List.mem_of_getElem? hxk))
     have TK:Hid (qhp [] ((xs.map Prod.fst).take (k + 1)) = qbe (qhp [] ((xs.map Prod.fst).take k)) x.1 false):=Lib.hid (qj5 (by rw [List.getElem?_map,hxk];rfl))
     have PX:Hid (∀ (j:Nat) u,(V (fdL x.1 N x.2.1 x.2.2))[j]? = some u->wr.cell? ⟨g5,k * 51 + j,none⟩ = some u):=Lib.hid (fun j u hu=>by
      rw [World.cell?_of_block (w:=w5) (a:=⟨g5,k * 51 + j,none⟩) (FR.out.block g5 hg5 (by omega) (fun e=>by have:=OVL _ e;omega))]
      exact HC5.out k x hxk j u hu)
     have FP:Hid (∀ (j:Nat) u,(V (gS x.1 N))[j]? = some u->(V (fdL x.1 N x.2.1 x.2.2))[j]? = some u):=Lib.hid (fun j u h=>qyx h)
     have HL51:(sqp.prog.info? 55).map (·.size) = some (V (fdL x.1 N x.2.1 x.2.2)).length:=by rw [qro x.1 N x.2.1 x.2.2];simp
     have HS51:=qro x.1 N x.2.1 x.2.2
     have HZ51:(#[.int .i64 0,.int .i64 0,.int .i64 0,.int .i64 0,.int .i64 0,.int .i64 0,.int .i64 0,.int .i64 0,.int .i64 0,.int .i64 0,.int .i64 0,.int .i64 0,.int .i64 0,.int .i64 0,.int .i64 0,.int .i64 0,.int .i64 0,.int .i64 0,.int .i64 0,.int .i64 0,.int .i64 0,.int .i64 0,.int .i64 0,.int .i64 0,.int .i64 0,.int .i64 0,.int .i64 0,.int .i64 0,.int .i64 0,.int .i64 0,.int .i64 0,.int .i64 0,.int .i64 0,.int .i64 0,.int .i64 0,.int .i64 0,.int .i64 0,.int .i64 0,.int .i64 0,.int .i64 0,.int .i64 0,.int .i64 0,.int .i64 0,.int .i64 0,.int .i64 0,.int .i64 0,.int .i64 0,.int .i64 0,.int .i64 0,.int .i64 0,.int .i64 0]:Array Value).size = (V (fdL x.1 N x.2.1 x.2.2)).toArray.size:=by simp [q8,qb0]
     have HG49:(sqp.prog.info? 43).map (·.size) = some (V (gS x.1 N)).length:=hiS x.1 N
     generalize hM:qhp [] ((xs.map Prod.fst).take k) = M at *
     generalize fdL x.1 N x.2.1 x.2.2 = LX at *
     clear hM hxk
     go_wp2_with (first | (refine qz rfl 55 _ rfl g5 (k * 51) rfl (V LX) _ PX.out sqp.underlying55 rfl HL51 ?_) | (refine zi rfl 55 _ _ rfl (V LX) _ rfl rfl HS51 HZ51 (zy _) ?_;intro w6 b6 a6 s6;have GP:Hid (∀ (j:Nat) u,(V (gS x.1 N))[j]? = some u->w6.cell? ⟨wr.heap.size,0 + j,none⟩ = some u):=Lib.hid (fun j u h=>by rw [Nat.zero_add];exact a6.cell (FP.out j u h))) | (refine qz rfl 43 _ rfl wr.heap.size 0 rfl (V (gS x.1 N)) _ GP.out sqp.underlying43 rfl HG49 ?_))
     have AK6:=Lib.hid (AK.out.keep b6);have FR6:=Lib.hid (FR.out.trans (Fr.of bb v' b6))
     clear GP a6 b6 AK FR PX FP
     refine (qqz bb bb N v' M x.1 _ AK6.out (Nat.le_refl _) SX.out (by omega)).mono ?_
     rintro e w7 ⟨v7,rfl,as7,fr7⟩
     have AK7:=Lib.hid as7;have FR7:=Lib.hid (FR6.out.trans fr7)
     clear as7 fr7 AK6 FR6
     go_wp2_with fail
     go_roundw
     case rel=>exact ⟨k + 1,v7,by omega,by go_num,by rw [TK.out];exact AK7.out,FR7.out⟩
     case measure=>simp [intOf];omega
    ·obtain rfl:k = xs.length:=by omega
     have EI:qhp [] ((xs.map Prod.fst).take xs.length) = orI s:=by rw [List.take_of_length_le (by simp),EFI.out]
     rw [EI] at AK il
     clear EI
     go_wp2_with fail
     refine (q00 bb bb N v' (orI s) _ AK.out (Nat.le_refl _) (by omega)).mono ?_
     rintro e w8 ⟨vl,v2,rfl,ol,as2,fr2⟩
     have FRT:=Lib.hid (FR.out.trans fr2)
     have s8:=FRT.out.size
     have s8r:=fr2.size
     obtain ⟨Al,cl,rfl⟩:=mem.za ol
     have hpos:=O1.out.pos
     have hAl:∃ gl,Al = some ⟨gl,0,none⟩/\gl < w8.heap.size:=by
      rcases ol.2 with ⟨q,q2⟩ | ⟨gl,cap,cur,q,q1,h2,_⟩
      ·omega
      ·injection q with q1' q2 q3
       exact ⟨gl,q1',(Array.getElem?_eq_some_iff.1 h2).1⟩
     obtain ⟨gl,rfl,hgl⟩:=hAl
     obtain ⟨h0,hh0⟩:∃ h0,(orI s)[0]? = some h0:=⟨_,List.getElem?_eq_getElem hpos⟩
     have EH:Hid (qyp (orI s) = h0):=Lib.hid (by
      cases hq:orI s with
      | nil=>rw [hq] at hh0;simp at hh0
      | cons y t=>rw [hq] at hh0;simpa [qyp] using hh0)
     have R1:Hid (∀ W,Below w8.heap.size w8 W->W.rangeAt gl 0 (V (gS h0 N))):=Lib.hid (fun W h j u hu=>by
      rw [Nat.zero_add,h.cell (p:=⟨gl,j,none⟩) hgl]
      have:=qjs N hh0 j u hu
      rw [Nat.zero_mul,Nat.zero_add] at this
      exact qav ol _ u this)
     have A8:Hid (Arr w8 bx (V (gS s N)) 43):=Lib.hid ((FRT.out.block bx (by omega) (by omega) (fun e=>by have:=OVL _ e;omega)).trans AX5.out)
     have hb8:=A8.out.lt
     have R2:Hid (∀ W,Below w8.heap.size w8 W->W.rangeAt bx 0 (V (gS s N))):=Lib.hid (fun W h j u hu=>by
      rw [Nat.zero_add,h.cell (p:=⟨bx,j,none⟩) hb8]
      exact A8.out.cell hu)
     have EQ:Hid (∀ W,(Op.equalIn 10000 43 (.agg (V (gS h0 N)).toArray) (.agg (V (gS s N)).toArray)).run sqp.prog W = .ok (decide (h0 = s)) W):=Lib.hid (fun W=>orb.qy1 (O1.out.sf h0 (List.mem_of_getElem? hh0)) SS.out W)
     have SV8:Hid (Sv w8 w2.heap.size bx (.slice Ao acc.length co) acc.length hs iv (RL w8 acc)):=Lib.hid (SV5.out.blk s8 (fun k hk hn=>FRT.out.block k hk (fun e=>hn (by rw [e];exact OFB.out)) (fun e=>hn (OV.out k e).2)))
     have OV8:Hid (∀ k,v2.ownBlock = some k->w2.heap.size<=k/\k < w8.heap.size/\off (.slice Ao acc.length co) acc.length iv k):=Lib.hid (fun k e=>by
      have kl:=(as2.own.lt k e).2
      rcases FRT.out.own k e with z | z
      ·exact ⟨(OV.out k z).1,kl,(OV.out k z).2⟩
      ·exact ⟨by omega,kl,fun e'=>by have:=VBO k e';omega,fun j hj=>by obtain ⟨_,_,_,_,_,z',_⟩:=SV5.out.row j hj;exact .inr (by omega)⟩)
     have HO8:Hid (Out bb (bb + 1) w2 w8):=Lib.hid ⟨FRT.out.os.trans (B35.out.os.trans HO.out.os),FRT.out.tape.trans (B35.out.tape.trans HO.out.tape),FRT.out.output.trans (B35.out.output.trans HO.out.output),by omega,fun k q1 q2=>(FRT.out.block k (by omega) (by omega) (fun e=>by have:=(OV.out k e).1;omega)).trans ((B35.out.block k (by omega)).trans (HO.out.block k q1 q2))⟩
     have OL:=Lib.hid ol;have AS8:=Lib.hid as2
     have hpos':(0:Int) < ((orI s).length:Int):=by omega
     clear ol as2 fr2 hh0 AK FR AX5 A8 SV5 HC5 HSX EFI OV HO FRT B35
     go_wp2_with fail
     refine wp_region_held_drew (S:=fun W=>Below w8.heap.size w8 W) (by kernel_rfl) ⟨rfl,rfl,rfl,Nat.le_refl _,fun _ _=>rfl⟩ (fun hHeld=>?_)
     have bd:Below w8.heap.size w8 w8.drew:=hHeld
     have OLd:Hid (w8.drew.ownsRow wr.heap.size 43 49 (.slice (some ⟨gl,0,none⟩) (orI s).length cl) (orI s).length (flG N (orI s))):=Lib.hid (qg OL.out (fun b e=>bd.block b (OL.out.lt b e).2))
     have ASd:=Lib.hid (AS8.out.keep bd)
     have SVd:Hid (Sv w8.drew w2.heap.size bx (.slice Ao acc.length co) acc.length hs iv (RL w8.drew acc)):=Lib.hid (SV8.out.keep bd (by omega) (fun _ _ _ _ _ _ q r=>r.keep bd (by omega)))
     have HOd:=Lib.hid (HO8.out.trans (Out.of_below bd))
     have sd:=bd.size
     generalize w8.drew = wd at *
     clear bd OL AS8 SV8 HO8
     refine wpAnyH_take (i:=0) (v:=.slice (some ⟨gl,0,none⟩) (orI s).length cl) rfl (by kernel_rfl) (by kernel_rfl) (by kernel_rfl) (fun _ _ _ h=>h) (Or.inl ⟨by kernel_rfl,fun w hSw=>by go_simp⟩) hHeld ?_
     refine wpAnyH_take (i:=3) (v:=.agg (V (gS s N)).toArray) rfl (by kernel_rfl) (by kernel_rfl) (by kernel_rfl) (fun _ _ _ h=>h) (yieldsIf_load_mid (by kernel_rfl) _ _ rfl bx 0 rfl (V (gS s N)) _ (fun W h=>R2.out W h) sqp.underlying43 rfl HSZ) hHeld ?_
     refine wpAnyH_take (i:=1) (v:=.pointer (some ⟨gl,0,none⟩)) rfl (by kernel_rfl) (by kernel_rfl) (by kernel_rfl) (fun _ _ _ h=>h) (Or.inl ⟨by kernel_rfl,fun w hSw=>by go_simp⟩) hHeld ?_
     refine wpAnyH_take (i:=2) (v:=.agg (V (gS h0 N)).toArray) rfl (by kernel_rfl) (by kernel_rfl) (by kernel_rfl) (fun _ _ _ h=>h) (yieldsIf_load_mid (by kernel_rfl) _ _ rfl gl 0 rfl (V (gS h0 N)) _ (fun W h=>R1.out W h) sqp.underlying43 rfl (hiS h0 N)) hHeld ?_
     refine wpAnyH_take (i:=4) (v:=.bool (decide (h0 = s))) rfl (by kernel_rfl) (by kernel_rfl) (by kernel_rfl) (fun _ _ _ h=>h) (qf4 rfl _ _ _ rfl _ _ rfl rfl _ EQ.out) hHeld ?_
     refine wpAnyH_done (by kernel_rfl) ?_ _
     clear R1 R2 EQ hHeld
     by_cases hes:h0 = s
     ·rw [decide_eq_true hes]
      have ES:Hid (uq acc s = acc ++ [orI s]):=Lib.hid (by unfold uq;rw [EH.out,if_pos hes])
      clear hes
      go_wp2_with fail
      refine (qha _ N _ (orI s) _ OLd.out O1.out.sf (by omega)).mono ?_
      rintro e w9 ⟨v9,rfl,sx⟩
      obtain ⟨A9,c9,rfl⟩:=sx.form
      have LO:=Lib.hid sx.lo
      have B9:=Lib.hid sx.bel
      have s9:=sx.bel.size
      have SV9:Hid (Sv w9 w2.heap.size bx (.slice Ao acc.length co) acc.length hs iv (RL w9 acc)):=Lib.hid (SVd.out.keep sx.bel (by omega) (fun _ _ _ _ _ _ q r=>r.keep sx.bel (by omega)))
      have OA:Hid ((w9.alloc (.cells #[.slice A9 (orI s).length c9] 28)).ownsRow w2.heap.size 28 1 (.slice Ao acc.length co) acc.length hs):=Lib.hid (SV9.out.own.alloc _)
      have HN:Hid (∀ (j:Nat) u,[Value.slice A9 (orI s).length c9][j]? = some u->(w9.alloc (.cells #[.slice A9 (orI s).length c9] 28)).cell? ((⟨w9.heap.size,0,none⟩:Addr).add j) = some u):=Lib.hid (World.news_of_block (Arr.new w9 _ _ rfl))
      have V1:Hid (∀ u ∈ [Value.slice A9 (orI s).length c9],u.oneCell' = true):=Lib.hid (by
       intro u hu
       simp at hu
       rw [hu];rfl)
      have h63:acc.length + 1<=maxLen:=by unfold maxLen;omega
      have hby:(acc.length + 1) * 24<=140737488355328:=by omega
      have hba:w2.heap.size<=(w9.alloc (.cells #[.slice A9 (orI s).length c9] 28)).heap.size:=by simp;omega
      clear sx SVd OLd
      go_wp2_with (at_builtin;refine wpList_append_lies (w9.alloc (.cells #[.slice A9 (orI s).length c9] 28)) rfl _ _ 22 rfl w2.heap.size 28 i0 _ 1 24 sqp.underlying22 hi0 hz0 hz1 hz2 zc (by decide) _ acc.length hs rfl OA.out ⟨w9.heap.size,0,none⟩ 1 1 [.slice A9 (orI s).length c9] rfl rfl HN.out V1.out (by decide) h63 hby hba (w9.heap.size + 1) (by simp) ?_)
      intro g10 cap10 w10 ho10 hg10 hb10 hl10
      have bA:Below w9.heap.size w9 (w9.alloc (.cells #[.slice A9 (orI s).length c9] 28)):=(Below.refl _ _).alloc (Nat.le_refl _) _
      have zA:(w9.alloc (.cells #[.slice A9 (orI s).length c9] 28)).heap.size = w9.heap.size + 1:=by simp
      obtain ⟨iv',sv',of'⟩:=SV9.out.push (l:=wd.heap.size) (u:=w9.heap.size) (by omega) (by omega) s9 (Nat.le_refl _) LO.out bA ho10 hg10 (by rw [zA];exact hb10)
      have z10:=hg10.size
      have KP:Hid (∀ k,k < wd.heap.size->¬ (Value.slice Ao acc.length co).ownBlock = some k->w10.heap[k]? = wd.heap[k]?):=Lib.hid (fun k hk hn=>(hg10.block k (by omega) (fun e=>hn e.symm)).trans ((bA.block k (by omega)).trans (B9.out.block k hk)))
      have AS10:Hid (As w10 bb bb N v2 []):=Lib.hid ⟨(KP.out bb ASd.out.box.lt OFB.out.1).trans ASd.out.box,qg ASd.out.own (fun k e=>KP.out k (OV8.out k e |>.2.1 |> fun z=>by omega) (OV8.out k e).2.2.1),ASd.out.nb,ASd.out.asc,ASd.out.sf⟩
      have OV10:Hid (∀ k,v2.ownBlock = some k->w2.heap.size<=k/\off (.slice (some ⟨g10,0,none⟩) (acc.length + 1) cap10) (acc ++ [orI s]).length iv' k):=Lib.hid (fun k e=>⟨(OV8.out k e).1,of' k (by have:=(OV8.out k e).2.1;omega) (OV8.out k e).2.2⟩)
      have HO10:Hid (Out bb (bb + 1) w2 w10):=Lib.hid ⟨hg10.os.trans (bA.os.trans (B9.out.os.trans HOd.out.os)),hg10.tape.trans (bA.tape.trans (B9.out.tape.trans HOd.out.tape)),hg10.output.trans (bA.output.trans (B9.out.output.trans HOd.out.output)),by omega,fun k q1 q2=>(KP.out k (by omega) (fun e=>by have:=(VBO k e).1;omega)).trans (HOd.out.block k q1 q2)⟩
      have SV10:=Lib.hid sv'
      clear ho10 hg10 hb10 hl10 bA sv' of' OA HN V1 LO SV9 ASd OV8 HOd KP
      go_wp2_with fail
      go_roundw
      case rel=>exact ⟨a + 1,v2,hs ++ [.slice A9 (orI s).length c9],iv',by omega,by go_num,AS10.out,by rw [ET.out,ES.out];exact OV10.out,by rw [ET.out,ES.out];exact SV10.out,by rw [ET.out,ES.out];simp;omega,HO10.out⟩
      case measure=>simp [intOf];omega
     ·rw [decide_eq_false hes]
      have ES:Hid (uq acc s = acc):=Lib.hid (by unfold uq;rw [EH.out,if_neg hes])
      clear hes
      go_wp2_with fail
      go_roundw
      case rel=>exact ⟨a + 1,v2,hs,iv,by omega,by go_num,ASd.out,by rw [ET.out,ES.out];exact fun k e=>⟨(OV8.out k e).1,(OV8.out k e).2.2⟩,by rw [ET.out,ES.out];exact SVd.out.wider (by omega) (Nat.le_refl _),by rw [ET.out,ES.out];omega,HOd.out⟩
      case measure=>simp [intOf];omega
  ·obtain rfl:a = L.length:=by omega
   have HE:Hid (L.take L.length = L):=Lib.hid (List.take_of_length_le (Nat.le_refl _))
   rw [HE.out,EF.out] at SV ⊢
   go_wp2_with fail
   go_ret
   have hb:=B2.out.trans (HO.out.below (Nat.le_refl _) (by have:=B2.out.size;omega))
   refine ⟨_,rfl,⟨hs,iv,?_⟩,by rw [hbb];exact hb⟩
   exact ⟨⟨SV.out.own.1,SV.out.own.2.imp id fun ⟨g,cap,cur,z1,z2,z3⟩=>⟨g,cap,cur,z1,by omega,z3⟩⟩,SV.out.hl,SV.out.top,SV.out.vlt,fun j hj=>by
    obtain ⟨A,m,c,q1,q2,q3⟩:=SV.out.row j hj
    exact ⟨A,m,c,q1,by omega,q3⟩,SV.out.ord⟩
end Go.Proofs.Ytcdclihinmdgiaa.lst

namespace Go.Proofs.Ytcdclihinmdgiaa.lst
open pm orb mat
set_option linter.unusedVariables false
set_option maxRecDepth 100000
theorem qnr:∀ (LL:List (List Sur)),(∀ L ∈ LL,L.length<=26/\∀ s ∈ L,s.1.length<=24/\s.2.length<=24)->(LL.map fun L=>tot (flat L)).sum<=1248 * LL.length
 | [],_=>by simp
 | L :: LL,h=>by
  have ih:=qnr LL fun x hx=>h x (List.mem_cons_of_mem _ hx)
  obtain ⟨a,b⟩:=h L (by simp)
  have:=qnw b
  have c:2 * 24 * L.length<=1248:=by omega
  rw [List.map_cons,List.sum_cons,List.length_cons,Nat.mul_add]
  omega
theorem qyy (n:Int):Few (orF n):=by
 obtain ⟨_,hor⟩:=q1k n
 have key:(orF n).length<=26/\∀ L ∈ orF n,L.length<=26/\∀ s ∈ L,s.1.length<=24/\s.2.length<=24:=by
  by_cases hr:1<=n/\n<=4
  ·have e:swF n = swL n.toNat:=if_pos hr
   have e2:orF n = orL n.toNat:=if_pos hr
   rw [e] at hor
   rw [e2]
   refine ⟨qyq (by omega) (by omega),fun L hL=>?_⟩
   obtain ⟨a,b⟩:=qrn (n:=n.toNat) (swL n.toNat) [] hor (fun o ho=>by simp at ho) L hL
   refine ⟨a,fun s hs=>?_⟩
   have h:=b s hs
   have n24:n.toNat<=24:=by omega
   rw [h.lr,h.lu];exact ⟨n24,n24⟩
  ·rw [qrl hr];exact ⟨by simp,fun L hL=>by simp at hL⟩
 have:=qnr _ key.2
 exact ⟨by omega,fun L hL=>⟨by have:=(key.2 L hL).1;omega,fun s hs=>by have:=(key.2 L hL).2 s hs;omega⟩,by omega⟩
end Go.Proofs.Ytcdclihinmdgiaa.lst
