import Derived.Test.YtgcnemkhppkkcaaV04
import Derived.Test.YtgcnemkhppkkcaaV16
import Derived.Test.YtgcnemkhppkkcaaV08
import Derived.Test.YtgcnemkhppkkcaaV15
import Derived.Deep.CutRange
import Derived.Test.YtgcnemkhppkkcaaV14
import Derived.Test.YtgcnemkhppkkcaaV07
import Derived.OwnWalk
import Derived.Deep.MidRow
import Derived.Deep.RegionHeld3
import Derived.Test.YtgcnemkhppkkcaaV10
import Derived.Shelf.Slices.Turned
import Derived.Shelf.Slices.Reverse
import Derived.Shelf.Sort.Plain
import Derived.Shelf.Slices.In.SortNone
import Derived.Test.YtgcnemkhppkkcaaProg
namespace Go.Proofs.Ytgcnemkhppkkcaa.orb
open Go.ChangeShapes Go.WideShapes Go.ChangeAt Go.RowKit Go.Maps
open mem ints arr pm sf gl
open Go.Proofs.Ytgcnemkhppkkcaa.ch (Chn)
set_option linter.unusedVariables false
set_option maxRecDepth 100000
theorem wpList_bs_od {ops:Array Oper} {rest:List Oper} {o:Oper} {a:Act} {w:World} {Q:Exit->Act->World->Prop} (hgd:o.guard = none) (x:Operand) (ho:o.op = .buildSlice 56 1 #[(0,x)])
  (L:List Int) (hL:L.length = 51) (hx:a.eval x = .agg (V L).toArray)
  (h:wpList sqp.prog ops Q rest (a.put o.dst (.slice (some ⟨w.heap.size,0,none⟩) 1 1)) (w.alloc (.cells (V L).toArray 65))):wpList sqp.prog ops Q (o :: rest) a w:=by
 obtain ⟨i,hi,hz,hs,hb⟩:=info_parts infoFd
 refine wpList_buildSlice hgd 56 65 1 _ ho (V L).toArray i _ sqp.underlying56 hi hz (by rw [hs];decide) (by rw [hs];decide) ?_ h
 rw [hs]
 have:=Great.fill_whole (s:=51) (by decide) [.agg (V L).toArray] ((Array.range (1 * 51)).map ((Value.agg (V zero51).toArray).cells[· % (Value.agg (V zero51).toArray).cells.size]!)) (by simp [Value.cells,V_len,hL]) (by simp)
 simpa [hx,Value.cells] using this
def fdsV (n:Nat) (xs:List Fd):List Value:=xs.flatMap fun x=>V (fdL x.1 n x.2.1 x.2.2)
theorem fdsV_put (n:Nat) (xs:List Fd) (x:Fd):fdsV n (xs ++ [x]) = fdsV n xs ++ V (fdL x.1 n x.2.1 x.2.2):=by simp [fdsV]
def OfPost (r u:List Int) (w:World) (e:Ending) (w':World):Prop :=
 Below w.heap.size w w' ∧
 ((transB r u = true/\(finds (r,u)).length<=120/\∃ A cp,e = .returned (.tuple #[.slice A (finds (r,u)).length cp,.bool true])/\w'.ownsRow w.heap.size 65 51 (.slice A (finds (r,u)).length cp) (finds (r,u)).length (fdsV r.length (finds (r,u)))) ∨
  ((transB r u = false\/120 < (finds (r,u)).length)/\e = .returned (.tuple #[.slice none 0 0,.bool false])))
set_option maxHeartbeats 2000000 in
theorem orbitOf_any (v:Value) (r u:List Int) (hi:Nat) (w:World) (hx:Srd w hi v r u) (hn:r.length<=1048576) (hm:u.length<=1048576) :
  Calls sqp.prog 37 #[v] w fun e w'=>OfPost r u w e w':=by
 have HX:=Lib.hid hx
 obtain ⟨P,n,c,Q,m,d,rfl,q1,q2,e1,e2,ht,HR⟩:=hx.open
 have L1:=Lib.hid q1
 clear hx
 have hmc:=fun w=>ch.mk (P:=sqp.prog) sqp.underlying103 (B:=408) (by kernel_rfl) 1000 (by omega) (by omega) 1000 rfl w
 go_enter sqp.func37,sqp.ntmps37
 simp only [sq.mapC,sq.seqO,List.map_toArray,List.map_cons,List.map_nil]
 generalize hR:Code.region 8 #[{ dst:=some 20,op:=Op.recv 103 (Operand.tmp 19) true,type:=0,pos:="l06_orbit.go:55",after:=#[],guard:=none },{ dst:=some 21,op:=Op.extract (Operand.tmp 20) 1,type:=4,pos:="l06_orbit.go:55",after:=#[{ on:=0,ground:=Ground.data }],guard:=none }] false = C8
 go_wp2_with fail
 refine (gluingOf_any _ r u hi _ (HX.out.keep ((Below.refl hi w).alloc ht _) (Nat.le_refl _)) hn hm).mono ?_
 rintro e w1 ⟨rfl,b1⟩
 have B1:=Lib.hid (below1 _ _ b1);clear b1
 cases hq:transB r u
 ·have HQ:=Lib.hid hq
  clear hq
  go_wp2_with (first | (refine wpList_store_row rfl 62 _ _ rfl w1.heap.size (V (glv r u)).toArray rfl rfl 62 (V zero49).toArray (Arr.new w1 (V zero49) _ rfl) (size49 (glv_len _ _)) (by simp [V_len,glv_len,zero49]) (one_V _) ?_;generalize hw2:(w1.alloc (.cells #[.int .i64 0,.int .i64 0,.int .i64 0,.int .i64 0,.int .i64 0,.int .i64 0,.int .i64 0,.int .i64 0,.int .i64 0,.int .i64 0,.int .i64 0,.int .i64 0,.int .i64 0,.int .i64 0,.int .i64 0,.int .i64 0,.int .i64 0,.int .i64 0,.int .i64 0,.int .i64 0,.int .i64 0,.int .i64 0,.int .i64 0,.int .i64 0,.int .i64 0,.int .i64 0,.int .i64 0,.int .i64 0,.int .i64 0,.int .i64 0,.int .i64 0,.int .i64 0,.int .i64 0,.int .i64 0,.int .i64 0,.int .i64 0,.int .i64 0,.int .i64 0,.int .i64 0,.int .i64 0,.int .i64 0,.int .i64 0,.int .i64 0,.int .i64 0,.int .i64 0,.int .i64 0,.int .i64 0,.int .i64 0,.int .i64 0] 62)).setRow w1.heap.size (V (glv r u)).toArray = w2;have A2:Hid (Arr w2 w1.heap.size (V (glv r u)) 62):=Lib.hid (by rw [<-hw2];exact (Arr.new w1 (V zero49) _ rfl).row);have b1:Below w1.heap.size w1 w2:=(by rw [<-hw2];exact arr.below_setRow ((Below.refl _ _).alloc (Nat.le_refl _) _) (Nat.le_refl _) _);have s2:=b1.size;replace B1:Hid (Below w.heap.size w w2):=Lib.hid (B1.out.trans (b1.mono B1.out.size));clear hw2 b1) | fail)
  go_ret2
  exact ⟨B1.out,.inr ⟨.inl HQ.out,rfl⟩⟩
 ·have HQ:=Lib.hid hq
  have HS:Hid (Sf n r u):=Lib.hid (by have:=transB_iff.1 hq;rwa [L1.out] at this)
  have HG:Hid (glv r u = gS (r,u) n):=Lib.hid (by rw [glv_yes hq,L1.out];rfl)
  have HGO:=Lib.hid (go_any (r,u) n)
  clear hq
  go_wp2_with (first | (refine wpList_store_row rfl 62 _ _ rfl w1.heap.size (V (glv r u)).toArray rfl rfl 62 (V zero49).toArray (Arr.new w1 (V zero49) _ rfl) (size49 (glv_len _ _)) (by simp [V_len,glv_len,zero49]) (one_V _) ?_;generalize hw2:(w1.alloc (.cells #[.int .i64 0,.int .i64 0,.int .i64 0,.int .i64 0,.int .i64 0,.int .i64 0,.int .i64 0,.int .i64 0,.int .i64 0,.int .i64 0,.int .i64 0,.int .i64 0,.int .i64 0,.int .i64 0,.int .i64 0,.int .i64 0,.int .i64 0,.int .i64 0,.int .i64 0,.int .i64 0,.int .i64 0,.int .i64 0,.int .i64 0,.int .i64 0,.int .i64 0,.int .i64 0,.int .i64 0,.int .i64 0,.int .i64 0,.int .i64 0,.int .i64 0,.int .i64 0,.int .i64 0,.int .i64 0,.int .i64 0,.int .i64 0,.int .i64 0,.int .i64 0,.int .i64 0,.int .i64 0,.int .i64 0,.int .i64 0,.int .i64 0,.int .i64 0,.int .i64 0,.int .i64 0,.int .i64 0,.int .i64 0,.int .i64 0] 62)).setRow w1.heap.size (V (glv r u)).toArray = w2;have A2:Hid (Arr w2 w1.heap.size (V (glv r u)) 62):=Lib.hid (by rw [<-hw2];exact (Arr.new w1 (V zero49) _ rfl).row);have b1:Below w1.heap.size w1 w2:=(by rw [<-hw2];exact arr.below_setRow ((Below.refl _ _).alloc (Nat.le_refl _) _) (Nat.le_refl _) _);have s2:=b1.size;replace B1:Hid (Below w.heap.size w w2):=Lib.hid (B1.out.trans (b1.mono B1.out.size));clear hw2 b1;rw [HG.out] at A2) | (refine wpList_load_row rfl 62 _ rfl w1.heap.size rfl 62 (V (gS (r,u) n)).toArray (0,0) _ ((A2.out).alloc _) sqp.underlying62 rfl (size49 (gS_len _ _)) ?_) | fail)
  have bc:Below w2.heap.size w2 (w2.alloc (.chan 1000 #[] false 0 0 false)):=(Below.refl _ _).alloc (Nat.le_refl _) _
  have szc:(w2.alloc (.chan 1000 #[] false 0 0 false)).heap.size = w2.heap.size + 1:=by simp
  have NC:=ch.Chn.new w2 1000
  have hw2:=B1.out.size
  generalize hcc:w2.heap.size = cc at *
  refine (HGO.out cc _ HS.out NC).mono ?_
  rintro e w4 ⟨rfl,hch,hfr⟩
  have CH:=Lib.hid hch
  have B4:Hid (Below w.heap.size w w4):=Lib.hid ⟨hfr.os.trans (bc.os.trans B1.out.os),hfr.tape.trans (bc.tape.trans B1.out.tape),hfr.output.trans (bc.output.trans B1.out.output),by have:=hfr.size;omega,fun k hk=>(hfr.block k (by omega) (by omega)).trans ((bc.block k (by omega)).trans (B1.out.block k hk))⟩
  have sz4:=hfr.size
  clear hch hfr NC bc HGO A2 hmc
  have FL:=finds_small (r,u)
  go_wp2_with fail
  subst hR
  go_loopw [7] (fun v7 wr=>∃ (j:Nat) (A:Option Addr) (cp:Nat),v7 = .slice A j cp/\j<=(finds (r,u)).length/\wr.ownsRow w.heap.size 65 51 v7 j (fdsV n ((finds (r,u)).take j))/\Chn wr cc 1000 (((finds (r,u)).drop j).map (fdV n)) true/\Below w.heap.size w wr/\(∀ b,v7.ownBlock = some b->b ≠ cc)) (fun v7 _=>(finds (r,u)).length + 1 - slen v7)
  case atStart=>exact ⟨0,none,0,rfl,by omega,⟨rfl,.inl ⟨rfl,rfl⟩⟩,by rw [List.drop_zero];exact CH.out,B4.out,fun b hb=>by simp [Value.ownBlock] at hb⟩
  case round =>
   obtain ⟨j,A,cp,rfl,hj,hrow,hch,hbl,hnc⟩:=hrel
   have HRW:=Lib.hid hrow
   have HCH:=Lib.hid hch
   have HBL:=Lib.hid hbl
   have HNC:=Lib.hid hnc
   clear hrow hch hbl hnc
   refine wp_seq ?_
   refine ch.region rfl ?_
   simp only [List.size_toArray,List.length_cons,List.length_nil,Nat.reduceAdd,Nat.zero_add,List.range,List.range.loop]
   by_cases hjl:j < (finds (r,u)).length
   ·have hd:(finds (r,u)).drop j = (finds (r,u))[j] :: (finds (r,u)).drop (j + 1):=List.drop_eq_getElem_cons hjl
    rw [hd,List.map_cons] at HCH
    refine ch.Rw.recvL (c:=cc) (z:=.agg (V zero51).toArray) true rfl rfl (by kernel_rfl) HCH.out (fun w5 C5 o5=>?_)
    simp only [Go.Conc.got,if_true]
    refine ch.Rw.plain (w':=w5) (v:=.bool true) rfl rfl (by kernel_rfl) ?_
    refine ch.Rw.nil ?_
    simp only [Exit.then]
    generalize hx:(finds (r,u))[j] = x at *
    have hx':(finds (r,u))[j]? = some x:=by rw [List.getElem?_eq_getElem hjl,hx]
    have L51:=fdL_len x.1 n x.2.1 x.2.2
    have hfd:fdV n x = .agg (V (fdL x.1 n x.2.1 x.2.2)).toArray:=rfl
    rw [hfd]
    have L51:=fdL_len x.1 n x.2.1 x.2.2
    have HRW5:Hid (w5.ownsRow w.heap.size 65 51 (.slice A j cp) j (fdsV n ((finds (r,u)).take j))):=Lib.hid (own_block_keep HRW.out (fun b hb=>o5.block b (World.ownsRow.lt HRW.out b hb).2 (by have:=HNC.out b hb;omega)))
    have HB5:Hid (∀ b,(Value.slice A j cp).ownBlock = some b->w.heap.size<=b/\b < w5.heap.size):=Lib.hid (fun b hb=>World.ownsRow.lt HRW5.out b hb)
    have BL5:Hid (Below w.heap.size w w5):=Lib.hid ⟨o5.os.trans HBL.out.os,o5.tape.trans HBL.out.tape,o5.output.trans HBL.out.output,by have:=o5.size;have:=HBL.out.size;omega,fun k hk=>(o5.block k (by have:=HBL.out.size;omega) (by omega)).trans (HBL.out.block k hk)⟩
    have CC5:=Lib.hid C5
    have hc5:=C5.lt
    have hb5:=BL5.out.size
    clear HRW HCH HBL C5 o5
    generalize hLX:fdL x.1 n x.2.1 x.2.2 = LX at *
    obtain ⟨i0,hi0,hz0,hz1,hz2⟩:=info_parts infoFd
    go_wp2_with (first | (refine wpList_store_row rfl 65 _ _ rfl w5.heap.size (V LX).toArray rfl rfl 65 (V zero51).toArray (Arr.new w5 (V zero51) _ rfl) (size51 L51) (by simp [V_len,L51,zero51]) (one_V _) ?_;generalize hw6:(w5.alloc (.cells #[.int .i64 0,.int .i64 0,.int .i64 0,.int .i64 0,.int .i64 0,.int .i64 0,.int .i64 0,.int .i64 0,.int .i64 0,.int .i64 0,.int .i64 0,.int .i64 0,.int .i64 0,.int .i64 0,.int .i64 0,.int .i64 0,.int .i64 0,.int .i64 0,.int .i64 0,.int .i64 0,.int .i64 0,.int .i64 0,.int .i64 0,.int .i64 0,.int .i64 0,.int .i64 0,.int .i64 0,.int .i64 0,.int .i64 0,.int .i64 0,.int .i64 0,.int .i64 0,.int .i64 0,.int .i64 0,.int .i64 0,.int .i64 0,.int .i64 0,.int .i64 0,.int .i64 0,.int .i64 0,.int .i64 0,.int .i64 0,.int .i64 0,.int .i64 0,.int .i64 0,.int .i64 0,.int .i64 0,.int .i64 0,.int .i64 0,.int .i64 0,.int .i64 0] 65)).setRow w5.heap.size (V LX).toArray = w6;have A6:Hid (Arr w6 w5.heap.size (V LX) 65):=Lib.hid (by rw [<-hw6];exact (Arr.new w5 (V zero51) _ rfl).row);have b6:Below w5.heap.size w5 w6:=(by rw [<-hw6];exact arr.below_setRow ((Below.refl _ _).alloc (Nat.le_refl _) _) (Nat.le_refl _) _);have s6:=b6.size;have HRW6:Hid (w6.ownsRow w.heap.size 65 51 (.slice A j cp) j (fdsV n ((finds (r,u)).take j))):=Lib.hid (own_block_keep HRW5.out (fun b hb=>b6.block b (HB5.out b hb).2));have CC6:=Lib.hid (CC5.out.keep b6 hc5);have BL6:=Lib.hid (BL5.out.trans (b6.mono hb5));clear hw6 b6) | (refine wpList_load_row rfl 65 _ rfl w5.heap.size rfl 65 (V LX).toArray (0,0) _ A6.out sqp.underlying65 rfl (size51 L51) ?_) | (refine wpList_bs_od rfl _ rfl LX L51 rfl ?_) | (at_builtin;refine wpList_append_lies (w6.alloc (.cells (V LX).toArray 65)) rfl _ _ 56 rfl w.heap.size 65 i0 _ 51 408 sqp.underlying56 hi0 hz0 hz1 hz2 rfl (by decide) (.slice A j cp) j (fdsV n ((finds (r,u)).take j)) rfl (HRW6.out.alloc _) ⟨w6.heap.size,0,none⟩ 1 1 (V LX) rfl (by simp [V_len,L51]) ?hn ?h1 (by decide) ?c4 ?c5 ?c6 _ rfl ?_) | fail)
    case hn =>
     intro q z hz
     have h:=(Arr.new w6 (V LX) 65 rfl).cell hz
     have e:(⟨w6.heap.size,0,none⟩:Addr).add q = ⟨w6.heap.size,q,none⟩:=by unfold Addr.add;split <;> simp_all
     rw [e]
     exact h
    case h1=>intro q hq;obtain ⟨z,_,rfl⟩:=List.mem_map.1 hq;rfl
    case c4=>unfold maxLen;omega
    case c5=>omega
    case c6=>first | omega | (simp;omega)
    intro g7 cap7 w7 ho hg hb hlt7
    have hsz6:(w6.alloc (.cells (V LX).toArray 65)).heap.size = w6.heap.size + 1:=by simp
    have b7:Below w6.heap.size w6 (w6.alloc (.cells (V LX).toArray 65)):=(Below.refl _ _).alloc (Nat.le_refl _) _
    have hc6:=CC6.out.lt
    have CC7:=Lib.hid (chn_grown (CC6.out.keep b7 hc6) hg (fun e=>HNC.out cc e.symm rfl))
    have BL7:Hid (Below w.heap.size w w7):=Lib.hid (((BL6.out.trans (b7.mono BL6.out.size))).trans ⟨hg.os,hg.tape,hg.output,hg.size,fun k hk=>hg.block k (by omega) (fun e=>by have:=(HB5.out k e.symm).1;omega)⟩)
    have OW7:=Lib.hid ho
    have G7:Hid (g7 ≠ cc):=Lib.hid (fun e=>by
     rcases hb with q | q
     ·exact HNC.out g7 q e
     ·omega)
    clear ho hg hb CC6 BL6 HRW6 A6 b7
    go_wp2_with fail
    go_roundw
    case rel =>
     refine ⟨j + 1,some ⟨g7,0,none⟩,cap7,rfl,by omega,?_,CC7.out,BL7.out,fun b hb=>?_⟩
     ·rw [List.take_add_one,hx',Option.toList_some,fdsV_put,hLX];exact OW7.out
     ·have e:g7 = b:=by simpa [Value.ownBlock] using hb
      subst e;exact G7.out
    case measure=>simp [slen];omega
   ·have HEJ:Hid ((finds (r,u)).length = j):=Lib.hid (by omega)
    have HCH0:Hid (Chn wr cc 1000 [] true):=Lib.hid (by have h:=HCH.out;rwa [<-HEJ.out,List.drop_length,List.map_nil] at h)
    have HRW0:Hid (wr.ownsRow w.heap.size 65 51 (.slice A j cp) j (fdsV n (finds (r,u)))):=Lib.hid (by have h:=HRW.out;rwa [<-HEJ.out,List.take_length,HEJ.out] at h)
    clear HCH HRW hjl hj FL CH
    refine ch.Rw.shutL (c:=cc) (z:=.agg (V zero51).toArray) true rfl rfl (by kernel_rfl) HCH0.out ?_
    simp only [Go.Conc.got,if_true]
    refine ch.Rw.plain (w':=wr) (v:=.bool false) rfl rfl (by kernel_rfl) ?_
    refine ch.Rw.nil ?_
    simp only [Exit.then]
    have hL:r.length = n:=L1.out
    by_cases hl:j<=120
    ·go_wp2_with fail
     go_ret2
     exact ⟨HBL.out,.inl ⟨HQ.out,by rw [HEJ.out];exact hl,A,cp,by (rw [HEJ.out] <;> rfl),by rw [hL,HEJ.out];exact HRW0.out⟩⟩
    ·go_wp2_with fail
     go_ret2
     exact ⟨HBL.out,.inr ⟨.inr (by rw [HEJ.out];omega),rfl⟩⟩
end Go.Proofs.Ytgcnemkhppkkcaa.orb

namespace Go.Proofs.Ytgcnemkhppkkcaa.gl
open Go.ChangeShapes Go.WideShapes Go.ChangeAt Go.RowKit
open mem ints arr pm permOk permOf inv fns sf
set_option linter.unusedVariables false
set_option maxRecDepth 100000
structure Bs (wr:World) (B lo n:Nat) (f:Sur):Prop where
 ex:∃ P c Q d hi,Arr wr B [.slice P n c,.slice Q n d] 25/\Svl wr lo hi (.agg #[.slice P n c,.slice Q n d]) f.1 f.2
structure Cs (w wr:World) (a b:Value) (n B3:Nat) (f:Sur):Prop where
 g:Arr wr w.heap.size [a,b] 25
 res:Arr wr (w.heap.size + 1) [.slice none 0 0,.slice none 0 0] 25
 best:Bs wr B3 (w.heap.size + 2) n f
 hB:w.heap.size + 2<=B3
 below:Below w.heap.size w wr
end Go.Proofs.Ytgcnemkhppkkcaa.gl

namespace Go.Proofs.Ytgcnemkhppkkcaa.la
open Go.ChangeShapes Go.WideShapes Go.ChangeAt Go.RowKit
open mem ints arr pm permOk permOf inv fns sf gl mk lw
set_option linter.unusedVariables false
set_option maxRecDepth 100000
set_option maxHeartbeats 4000000 in
theorem sa_any (v:Value) (r u:List Int) (A:Option Addr) (m c:Nat) (L:List Int) (hi hi':Nat) (w:World) (hx:Srd w hi v r u) (hn:r.length<=1048576) (hm:u.length<=1048576)
  (hL:Rd w hi' A m (V L)) (hh:hi'<=w.heap.size) (h3:∀ l ∈ L,0<=l/\l<=3) (h40:m<=40) :
  Calls sqp.prog 44 #[v,.slice A m c] w (SB (acR (runN L) r u) (acU (runN L) r u) (transB r u) w):=by
 have HX:=Lib.hid hx;have HL:=Lib.hid hL;have H3:=Lib.hid h3;clear hL h3
 obtain ⟨P,n,c',Q,m',d,rfl,q1,q2,e1,e2,ht,HR⟩:=hx.open
 have L1:=Lib.hid q1
 clear hx
 have N0:=Lib.hid (fun o=>Arr.new (w.alloc o) [.slice none 0 0,.slice none 0 0] 25 (g:=w.heap.size + 1) (by simp))
 go_enter sqp.func44,sqp.ntmps44
 go_wp2_with fail
 refine (gluingOf_any _ r u hi _ (HX.out.keep (((Below.refl hi w).alloc ht _).alloc (by simp;omega) _) (Nat.le_refl _)) hn hm).mono ?_
 rintro e w1 ⟨rfl,b1⟩
 have A1:=Lib.hid ((N0.out _).keep b1 (by simp))
 have hs1:w.heap.size + 2<=w1.heap.size:=by have:=b1.size;simpa using this
 have B1:Hid (Below w.heap.size w w1):=Lib.hid ((((Below.refl _ _).alloc (Nat.le_refl _) _).alloc (by simp) _).trans (b1.mono (by simp <;> omega)));clear b1 N0
 cases hq:transB r u
 ·obtain ⟨z1,z2⟩:=ac_no (runN L) hq
  have Z1:=Lib.hid z1;have Z2:=Lib.hid z2;have HQ:=Lib.hid hq;clear z1 z2
  go_wp2_with (first | (refine wpList_store_row rfl 62 _ _ rfl w1.heap.size (V (glv r u)).toArray rfl rfl 62 (V zero49).toArray (Arr.new w1 (V zero49) _ rfl) (size49 (glv_len _ _)) (by simp [V_len,glv_len,zero49]) (one_V _) ?_;generalize hw2:(w1.alloc (.cells #[.int .i64 0,.int .i64 0,.int .i64 0,.int .i64 0,.int .i64 0,.int .i64 0,.int .i64 0,.int .i64 0,.int .i64 0,.int .i64 0,.int .i64 0,.int .i64 0,.int .i64 0,.int .i64 0,.int .i64 0,.int .i64 0,.int .i64 0,.int .i64 0,.int .i64 0,.int .i64 0,.int .i64 0,.int .i64 0,.int .i64 0,.int .i64 0,.int .i64 0,.int .i64 0,.int .i64 0,.int .i64 0,.int .i64 0,.int .i64 0,.int .i64 0,.int .i64 0,.int .i64 0,.int .i64 0,.int .i64 0,.int .i64 0,.int .i64 0,.int .i64 0,.int .i64 0,.int .i64 0,.int .i64 0,.int .i64 0,.int .i64 0,.int .i64 0,.int .i64 0,.int .i64 0,.int .i64 0,.int .i64 0,.int .i64 0] 62)).setRow w1.heap.size (V (glv r u)).toArray = w2;have A2:Hid (Arr w2 w1.heap.size (V (glv r u)) 62):=Lib.hid (by rw [<-hw2];exact (Arr.new w1 (V zero49) _ rfl).row);have b1:Below w1.heap.size w1 w2:=(by rw [<-hw2];exact arr.below_setRow ((Below.refl _ _).alloc (Nat.le_refl _) _) (Nat.le_refl _) _);have s2:=b1.size;replace A1:=Lib.hid (A1.out.keep b1 A1.out.lt);replace B1:Hid (Below w.heap.size w w2):=Lib.hid (B1.out.trans (b1.mono B1.out.size));clear hw2 b1) | (refine wpList_build rfl 25 _ rfl [] rfl _ built2 ?_) | (refine wpList_store_row rfl 25 _ _ rfl (w.heap.size + 1) #[.slice none 0 0,.slice none 0 0] rfl rfl 25 #[.slice none 0 0,.slice none 0 0] A1.out size2 rfl (by simp [Value.oneCell']) ?_))
  exact bodyPost_ret (v:=.tuple #[.agg #[.slice none 0 0,.slice none 0 0],.bool false]) (permOf.results_cell_tmp rfl _ _ (w.heap.size + 1) 25 #[.slice none 0 0,.slice none 0 0] (0,0) _ _ rfl rfl A1.out.row sqp.underlying25 rfl size2) rfl (sb_nil Z1.out Z2.out HQ.out (below_setRow B1.out (by omega) _))
 ·obtain ⟨z1,z2⟩:=ac_yes (runN L) hq
  have Z1:=Lib.hid z1;have Z2:=Lib.hid z2;have HQ:=Lib.hid hq;clear z1 z2
  have HS:Hid (Sf n r u):=Lib.hid (by have:=transB_iff.1 hq;rwa [L1.out] at this)
  have HG:Hid (glv r u = gl (ext r) (ext u) n):=Lib.hid (by rw [glv_yes hq,L1.out])
  have hn24:n<=24:=by have:=HS.out.r.len;rwa [L1.out] at this
  have HK:=Lib.hid (runN_sf L (r,u) HS.out)
  clear hq
  go_wp2_with (first | (refine wpList_store_row rfl 62 _ _ rfl w1.heap.size (V (glv r u)).toArray rfl rfl 62 (V zero49).toArray (Arr.new w1 (V zero49) _ rfl) (size49 (glv_len _ _)) (by simp [V_len,glv_len,zero49]) (one_V _) ?_;generalize hw2:(w1.alloc (.cells #[.int .i64 0,.int .i64 0,.int .i64 0,.int .i64 0,.int .i64 0,.int .i64 0,.int .i64 0,.int .i64 0,.int .i64 0,.int .i64 0,.int .i64 0,.int .i64 0,.int .i64 0,.int .i64 0,.int .i64 0,.int .i64 0,.int .i64 0,.int .i64 0,.int .i64 0,.int .i64 0,.int .i64 0,.int .i64 0,.int .i64 0,.int .i64 0,.int .i64 0,.int .i64 0,.int .i64 0,.int .i64 0,.int .i64 0,.int .i64 0,.int .i64 0,.int .i64 0,.int .i64 0,.int .i64 0,.int .i64 0,.int .i64 0,.int .i64 0,.int .i64 0,.int .i64 0,.int .i64 0,.int .i64 0,.int .i64 0,.int .i64 0,.int .i64 0,.int .i64 0,.int .i64 0,.int .i64 0,.int .i64 0,.int .i64 0] 62)).setRow w1.heap.size (V (glv r u)).toArray = w2;have A2:Hid (Arr w2 w1.heap.size (V (glv r u)) 62):=Lib.hid (by rw [<-hw2];exact (Arr.new w1 (V zero49) _ rfl).row);have b1:Below w1.heap.size w1 w2:=(by rw [<-hw2];exact arr.below_setRow ((Below.refl _ _).alloc (Nat.le_refl _) _) (Nat.le_refl _) _);have s2:=b1.size;replace A1:=Lib.hid (A1.out.keep b1 A1.out.lt);replace B1:Hid (Below w.heap.size w w2):=Lib.hid (B1.out.trans (b1.mono B1.out.size));clear hw2 b1;rw [HG.out] at A2) | (refine wpList_load_row rfl 62 _ rfl w1.heap.size rfl 62 (V (gl (ext r) (ext u) n)).toArray (0,0) _ A2.out sqp.underlying62 rfl (size49 (gl_len (ext_len _) (ext_len _) _)) ?_) | fail)
  refine (after_any r u n A m c L hi' _ (HL.out.keep (B1.out.mono hh) (Nat.le_refl _)) (Nat.le_trans hh B1.out.size) H3.out HS.out h40).mono ?_
  rintro e w3 ⟨rfl,b1⟩
  replace A1:=Lib.hid (A1.out.keep b1 A1.out.lt)
  replace B1:=Lib.hid (B1.out.trans (b1.mono B1.out.size))
  have hs3:=b1.size
  clear b1 A2
  generalize runN L (r,u) = s3 at *
  obtain ⟨r3,u3⟩:=s3
  go_wp2_with fail
  refine (surface_any (ext r3) (ext u3) n _ (ext_len _) (ext_len _) hn24).mono ?_
  rintro e w6 ⟨g,rfl,sg,b1⟩
  have t1:(ext r3).take n = r3:=by have:=ext_take r3 (by rw [HK.out.lr];exact hn24);rwa [HK.out.lr] at this
  have t2:(ext u3).take n = u3:=by have:=ext_take u3 (by rw [HK.out.lu];exact hn24);rwa [HK.out.lu] at this
  rw [t1,t2] at sg
  obtain ⟨P3,c3,Q3,d3,rfl⟩:=sg.lens HK.out.lr HK.out.lu
  have hs6:=b1.size
  replace A1:=Lib.hid (A1.out.keep b1 A1.out.lt)
  replace B1:=Lib.hid (B1.out.trans (b1.mono B1.out.size))
  have SG:=Lib.hid sg
  clear b1 sg t1 t2
  go_wp2_with (refine wpList_store_row rfl 25 _ _ rfl (w.heap.size + 1) #[.slice P3 n c3,.slice Q3 n d3] rfl rfl 25 #[.slice none 0 0,.slice none 0 0] A1.out size2 rfl (by simp [Value.oneCell']) ?_)
  exact bodyPost_ret (v:=.tuple #[.agg #[.slice P3 n c3,.slice Q3 n d3],.bool true]) (permOf.results_cell_tmp rfl _ _ (w.heap.size + 1) 25 #[.slice P3 n c3,.slice Q3 n d3] (0,0) _ _ rfl rfl A1.out.row sqp.underlying25 rfl size2) rfl (by
   rw [Z1.out,Z2.out,HQ.out]
   have:=Svl.row SG.out (g:=w.heap.size + 1) (by omega) #[.slice P3 n c3,.slice Q3 n d3]
   exact ⟨_,rfl,(by simpa using this.later (by omega)),below_setRow B1.out (by omega) _⟩)
theorem rd_one (w:World) (z:Int) (g:Nat) (hg:w.heap.size = g):Rd (w.alloc (.cells #[.int .i64 z] 63)) (g + 1) (some ⟨g,0,none⟩) 1 (V [z]):=by
 subst hg
 have:=Rd.of_cells (w:=w.alloc (.cells #[.int .i64 z] 63)) (a:=⟨w.heap.size,0,none⟩) (n:=1) (xs:=V [z]) rfl (fun i hi=>by
  obtain rfl:i = 0:=by omega
  exact (Arr.new w (V [z]) 63 rfl).cell rfl)
 simpa using this
theorem sh_one:runN [0] = shearS:=by funext s;simp [runN,letN]
set_option maxHeartbeats 600000 in
theorem sh_impl (v:Value) (r u:List Int) (hi:Nat) (w:World) (hx:Srd w hi v r u) (hn:r.length<=1048576) (hm:u.length<=1048576) :
  Calls sqp.prog 34 #[v] w fun e w'=>∃ g,e = .returned (.tuple #[g,.bool (transB r u)])/\Svl w' w.heap.size w'.heap.size g (shR r u) (shU r u)/\Below w.heap.size w w':=by
 have HX:=Lib.hid hx
 obtain ⟨P,n,c',Q,m',d,rfl,q1,q2,e1,e2,ht,HR⟩:=hx.open
 clear hx
 go_enter sqp.func34,sqp.ntmps34
 go_wp2_with fail
 have RD:=Lib.hid (rd_one ((w.alloc (.cells #[.slice P n c',.slice Q m' d] 25)).alloc (.cells #[.slice none 0 0,.slice none 0 0] 25)) 0 (w.heap.size + 1 + 1) (by simp))
 have A1:Hid (Arr ((w.alloc (.cells #[.slice P n c',.slice Q m' d] 25)).alloc (.cells #[.slice none 0 0,.slice none 0 0] 25)) (w.heap.size + 1) [.slice none 0 0,.slice none 0 0] 25):=Lib.hid (Arr.new _ _ _ (by simp))
 have B1:Hid (Below w.heap.size w ((w.alloc (.cells #[.slice P n c',.slice Q m' d] 25)).alloc (.cells #[.slice none 0 0,.slice none 0 0] 25))):=Lib.hid (((Below.refl _ _).alloc (Nat.le_refl _) _).alloc (by simp) _)
 have s1:((w.alloc (.cells #[.slice P n c',.slice Q m' d] 25)).alloc (.cells #[.slice none 0 0,.slice none 0 0] 25)).heap.size>=w.heap.size + 2:=by simp
 generalize (w.alloc (.cells #[.slice P n c',.slice Q m' d] 25)).alloc (.cells #[.slice none 0 0,.slice none 0 0] 25) = w1 at *
 have b1:Below w1.heap.size w1 (w1.alloc (.cells #[.int .i64 0] 63)):=(Below.refl _ _).alloc (Nat.le_refl _) _
 have sz:w1.heap.size + 1<=(w1.alloc (.cells #[.int .i64 0] 63)).heap.size:=by simp
 replace A1:=Lib.hid (A1.out.keep b1 A1.out.lt)
 replace B1:=Lib.hid (B1.out.trans (b1.mono B1.out.size))
 clear b1
 generalize w1.alloc (.cells #[.int .i64 0] 63) = w1b at *
 refine (sa_any _ r u _ 1 1 [0] hi _ _ (HX.out.keep (B1.out.mono ht) (Nat.le_refl _)) hn hm RD.out (by omega) (by simp) (by omega)).mono ?_
 rintro e w2 ⟨g,rfl,sg,b1⟩
 rw [sh_one] at sg
 change Svl w2 w1b.heap.size w2.heap.size g (shR r u) (shU r u) at sg
 obtain ⟨P3,c3,Q3,d3,rfl⟩:=sg.len
 have SG:=Lib.hid sg;clear sg
 have s2:=b1.size
 replace A1:=Lib.hid (A1.out.keep b1 A1.out.lt)
 replace B1:=Lib.hid (B1.out.trans (b1.mono B1.out.size))
 clear b1
 go_wp2_with (refine wpList_store_row rfl 25 _ _ rfl (w.heap.size + 1) #[.slice P3 (shR r u).length c3,.slice Q3 (shU r u).length d3] rfl rfl 25 #[.slice none 0 0,.slice none 0 0] A1.out size2 rfl (by simp [Value.oneCell']) ?_)
 exact bodyPost_ret (v:=.tuple #[.agg #[.slice P3 (shR r u).length c3,.slice Q3 (shU r u).length d3],.bool (transB r u)]) (permOf.results_cell_tmp rfl _ _ (w.heap.size + 1) 25 #[.slice P3 (shR r u).length c3,.slice Q3 (shU r u).length d3] (0,0) _ _ rfl rfl A1.out.row sqp.underlying25 rfl size2) rfl (by
   have:=Svl.row SG.out (g:=w.heap.size + 1) (by omega) #[.slice P3 (shR r u).length c3,.slice Q3 (shU r u).length d3]
   exact ⟨_,rfl,(by simpa using this.later (by omega)),below_setRow B1.out (by omega) _⟩)
end Go.Proofs.Ytgcnemkhppkkcaa.la

namespace Go.Proofs.Ytgcnemkhppkkcaa.rw
open Go.ChangeShapes Go.WideShapes Go.ChangeAt Go.RowKit
open mem ints arr pm permOk permOf inv fns sf gl mk lw la Go.Proofs.Ytgcnemkhppkkcaa.wd
set_option linter.unusedVariables false
set_option maxRecDepth 100000
end Go.Proofs.Ytgcnemkhppkkcaa.rw

namespace Go.Proofs.Ytgcnemkhppkkcaa.orb
open Go.ChangeShapes Go.WideShapes Go.ChangeAt Go.RowKit
open mem ints arr pm sf
set_option linter.unusedVariables false
set_option maxRecDepth 100000
def mid (k i:Nat) (q:LW):LW:=if i = 0 then q else if i = 1 then addL k 84 q else two k q
theorem mid_oi {N k i:Nat} {q:LW} (h:Oi N q) (hk:k < q.1.length):Oi N (mid k i q):=by
 have h1:=h.add hk 84
 have h2:=h1.add (k:=k) (by obtain ⟨r,e,_⟩:=addL_sub k 84 q;rw [e];simp;omega) 83
 unfold mid two
 split
 ·exact h
 ·split
  ·exact h1
  ·exact h2
end Go.Proofs.Ytgcnemkhppkkcaa.orb

namespace Go.Proofs.Ytgcnemkhppkkcaa.orb
open Go.ChangeShapes Go.WideShapes Go.ChangeAt Go.RowKit Go.Joins Go.Deep
open mem ints arr pm sf mat
set_option linter.unusedVariables false
set_option maxRecDepth 100000
end Go.Proofs.Ytgcnemkhppkkcaa.orb

namespace Go.Proofs.Ytgcnemkhppkkcaa.orb
open Go.ChangeShapes Go.WideShapes Go.ChangeAt Go.RowKit
open mem ints arr pm sf
set_option linter.unusedVariables false
set_option maxRecDepth 100000
def orbF (r u:List Int):Option LW:=if transB r u then orb (r,u) else none
def orbL (r u:List Int):List Sur:=match orbF r u with | some q=>q.1 | none=>[]
def orbB (r u:List Int):Bool:=(orbF r u).isSome
theorem orbL_some {r u:List Int} {q:LW} (h:orbF r u = some q):orbL r u = q.1/\orbB r u = true:=by simp [orbL,orbB,h]
theorem orbL_none {r u:List Int} (h:orbF r u = none):orbL r u = []/\orbB r u = false:=by simp [orbL,orbB,h]
theorem orbF_no {r u:List Int} (h:transB r u = false):orbF r u = none:=by simp [orbF,h]
theorem orbF_yes {r u:List Int} (h:transB r u = true):orbF r u = orb (r,u):=by simp [orbF,h]
theorem orun_inv {N:Nat}:∀ (f k:Nat) (q q':LW),Oi N q->q.1.length<=120->orun f k q = some q'->Oi N q'/\q'.1.length<=120
 | 0,k,q,q',_,_,h=>by simp [orun] at h
 | f + 1,k,q,q',hq,hl,h=>by
  unfold orun at h
  split at h
  ·rename_i hk
   split at h
   ·cases h
   ·rename_i hs
    exact orun_inv f (k + 1) _ q' (by have:=mid_oi (i:=2) hq hk;exact this) (by omega) h
  ·injection h with h
   subst h
   exact ⟨hq,hl⟩
theorem orbF_inv {r u:List Int} {q:LW} (h:orbF r u = some q):Sf r.length r u/\Oi r.length q/\q.1.length<=120:=by
 unfold orbF at h
 split at h
 ·rename_i ht
  have s:=transB_iff.1 ht
  exact ⟨s,orun_inv 122 0 _ q (Oi.start s) (by simp) h⟩
 ·cases h
def idxF (r u:List Int):Int:=if orbB r u then (orbL r u).length else -1
end Go.Proofs.Ytgcnemkhppkkcaa.orb

namespace Go.Proofs.Ytgcnemkhppkkcaa.orb
open Go.ChangeShapes Go.WideShapes Go.ChangeAt Go.RowKit
open mem ints arr pm sf gl
set_option linter.unusedVariables false
set_option maxRecDepth 100000
theorem idx_yes {r u:List Int} (h:transB r u = true) (hl:(finds (r,u)).length<=120):idxF r u = ((finds (r,u)).length:Int):=by
 rcases finds_orb (r,u) with ⟨a,b⟩ | ⟨a,q,b,c⟩
 ·omega
 ·have e:q.1.length = (finds (r,u)).length:=by rw [c.fst];simp
  obtain ⟨x,y⟩:=orbL_some (show orbF r u = some q by rw [orbF_yes h];exact b)
  unfold idxF
  rw [if_pos y,x,e]
theorem idx_no {r u:List Int} (h:transB r u = false\/120 < (finds (r,u)).length):idxF r u = -1:=by
 have h0:orbF r u = none:=by
  rcases h with h | h
  ·exact orbF_no h
  ·rcases finds_orb (r,u) with ⟨a,b⟩ | ⟨a,q,b,c⟩
   ·cases ht:transB r u
    ·exact orbF_no ht
    ·rw [orbF_yes ht];exact b
   ·omega
 unfold idxF
 rw [(orbL_none h0).2]
 rfl
set_option maxHeartbeats 1000000 in
theorem idx_impl (v:Value) (r u:List Int) (hi:Nat) (w:World) (hx:Srd w hi v r u) (hn:r.length<=1048576) (hm:u.length<=1048576) :
  Calls sqp.prog 10 #[v] w fun e w'=>e = .returned (.int .i64 (idxF r u))/\Below w.heap.size w w':=by
 have HX:=Lib.hid hx
 obtain ⟨P,n,c,Q,m,d,rfl,q1,q2,e1,e2,ht,HR⟩:=hx.open
 clear hx q1 q2 HR
 have YES:Hid (transB r u = true->(finds (r,u)).length<=120->idxF r u = ((finds (r,u)).length:Int)):=Lib.hid idx_yes
 have NO:Hid (transB r u = false\/120 < (finds (r,u)).length->idxF r u = -1):=Lib.hid idx_no
 go_enter sqp.func10,sqp.ntmps10
 go_wp2_with fail
 refine (orbitOf_any _ r u hi _ (HX.out.keep ((Below.refl hi w).alloc ht _) (Nat.le_refl _)) hn hm).mono ?_
 rintro e w1 ⟨b1,h⟩
 have B1:=Lib.hid (below1 _ _ b1);clear b1
 rcases h with ⟨h1,h2,A,cp,rfl,h3⟩ | ⟨h1,rfl⟩
 ·have HI:=Lib.hid (YES.out h1 h2)
  clear h3 YES NO h1 h2
  generalize (finds (r,u)).length = k at *
  go_wp2_with fail
  go_ret
  exact ⟨ret_int HI.out.symm,B1.out⟩
 ·have HI:=Lib.hid (NO.out h1)
  clear YES NO h1
  go_wp2_with fail
  go_ret
  exact ⟨ret_int HI.out.symm,B1.out⟩
end Go.Proofs.Ytgcnemkhppkkcaa.orb

namespace Go.Proofs.Ytgcnemkhppkkcaa.orb
open Go.ChangeShapes Go.WideShapes Go.ChangeAt Go.RowKit Go.Maps
open mem ints arr pm sf gl
set_option linter.unusedVariables false
set_option maxRecDepth 100000
theorem fdsV_at {n:Nat} {xs:List Fd} {k:Nat} {x:Fd} (hx:xs[k]? = some x):∀ (j:Nat) v,(V (fdL x.1 n x.2.1 x.2.2))[j]? = some v->(fdsV n xs)[k * 51 + j]? = some v:=by
 induction xs generalizing k with
 | nil=>simp at hx
 | cons y ys ih =>
  intro j v hj
  have hl:j < 51:=by have:=(List.getElem?_eq_some_iff.1 hj).1;rwa [V_len,fdL_len] at this
  have e:fdsV n (y :: ys) = V (fdL y.1 n y.2.1 y.2.2) ++ fdsV n ys:=rfl
  have ly:(V (fdL y.1 n y.2.1 y.2.2)).length = 51:=by rw [V_len,fdL_len]
  rw [e]
  cases k with
  | zero =>
   obtain rfl:y = x:=by simpa using hx
   rw [List.getElem?_append_left (by omega),Nat.zero_mul,Nat.zero_add]
   exact hj
  | succ k =>
   rw [List.getElem?_append_right (by rw [ly];omega),ly,show (k + 1) * 51 + j - 51 = k * 51 + j by omega]
   exact ih (by simpa using hx) j v hj
theorem fds_mem {w:World} {B n:Nat} {xs:List Fd} {A:Option Addr} {cp m:Nat} (h:w.ownsRow B 65 51 (.slice A m cp) m (fdsV n xs)) (hm:m = xs.length) (h0:0 < m) :
  ∃ g,A = some ⟨g,0,none⟩/\g < w.heap.size/\∀ (k:Nat) x,xs[k]? = some x->∀ (j:Nat) v,(V (fdL x.1 n x.2.1 x.2.2))[j]? = some v->w.cell? ⟨g,k * 51 + j,none⟩ = some v:=by
 subst hm
 rcases h.2 with ⟨_,q⟩ | ⟨g,cap,cur,q1,q2,q3,q4,q5,q6,q7⟩
 ·omega
 ·injection q1 with e1 e2 e3
  refine ⟨g,e1,?_,fun k x hx j v hj=>?_⟩
  ·rcases Nat.lt_or_ge g w.heap.size with hlt | hge
   ·exact hlt
   ·rw [Array.getElem?_eq_none hge] at q3;cases q3
  have h1:=fdsV_at (n:=n) hx j v hj
  rw [cell_of_row w g _ cur _ _ q3]
  have h2:(List.take (xs.length * 51) cur.toList)[k * 51 + j]? = some v:=by rw [q7];exact h1
  rw [List.getElem?_take] at h2
  split at h2
  ·simpa using h2
  ·cases h2
theorem fin_open {r u:List Int} (h:transB r u = true) (hl:(finds (r,u)).length<=120) :
  ∃ q,orbF r u = some q/\Fq (finds (r,u)) q/\orbL r u = (finds (r,u)).map Prod.fst/\orbB r u = true/\Oi r.length q/\∀ x ∈ finds (r,u),Sf r.length x.1.1 x.1.2:=by
 rcases finds_orb (r,u) with ⟨a,b⟩ | ⟨a,q,b,c⟩
 ·omega
 ·have e:orbF r u = some q:=by rw [orbF_yes h];exact b
  obtain ⟨x,y⟩:=orbL_some e
  obtain ⟨z1,z2,z3⟩:=orbF_inv e
  refine ⟨q,e,c,by rw [x,c.fst],y,z2,fun f hf=>z2.sf f.1 (by rw [c.fst];exact List.mem_map_of_mem hf)⟩
theorem fin_shut {r u:List Int} (h:transB r u = false\/120 < (finds (r,u)).length):orbF r u = none:=by
 rcases h with h | h
 ·exact orbF_no h
 ·rcases finds_orb (r,u) with ⟨a,b⟩ | ⟨a,q,b,c⟩
  ·cases ht:transB r u
   ·exact orbF_no ht
   ·rw [orbF_yes ht];exact b
  ·omega
theorem frun_ge:∀ (f k:Nat) (xs:List Fd),xs.length<=(frun f k xs).length
 | 0,_,xs=>Nat.le_refl _
 | f + 1,k,xs=>by
  rw [frun]
  split
  ·exact Nat.le_trans (twoF_len k xs).1 (frun_ge f (k + 1) (twoF k xs))
  ·exact Nat.le_refl _
theorem finds_pos (s:Sur):0 < (finds s).length:=Nat.lt_of_lt_of_le (by simp) (frun_ge 122 0 [(cn s,0,0)])
end Go.Proofs.Ytgcnemkhppkkcaa.orb

namespace Go.Proofs.Ytgcnemkhppkkcaa.orb
open Go.ChangeShapes Go.WideShapes Go.ChangeAt Go.RowKit Go.Maps
open mem ints arr pm sf gl
set_option linter.unusedVariables false
set_option maxRecDepth 100000
def Fm (w:World) (A:Option Addr) (n:Nat) (xs:List Fd):Prop :=
 ∀ (k:Nat) x,xs[k]? = some x->∃ g,A = some ⟨g,0,none⟩/\g < w.heap.size/\∀ (j:Nat) v,(V (fdL x.1 n x.2.1 x.2.2))[j]? = some v->w.cell? ⟨g,k * 51 + j,none⟩ = some v
theorem Fm.of {w:World} {B n:Nat} {xs:List Fd} {A:Option Addr} {cp m:Nat} (h:w.ownsRow B 65 51 (.slice A m cp) m (fdsV n xs)) (hm:m = xs.length) (h0:0 < m):Fm w A n xs:=fun k x hx=>by
 obtain ⟨g,e,hg,hc⟩:=fds_mem h hm h0
 exact ⟨g,e,hg,hc k x hx⟩
theorem orbB_no {r u:List Int} (h:orbF r u = none):orbB r u = false:=(orbL_none h).2
end Go.Proofs.Ytgcnemkhppkkcaa.orb

namespace Go.Proofs.Ytgcnemkhppkkcaa.orb
open Go.ChangeShapes Go.WideShapes Go.ChangeAt Go.RowKit
open mem ints arr pm sf fns
set_option linter.unusedVariables false
set_option maxRecDepth 100000
def pL (L:List Sur):List Int:=L.map fun s=>fnd L (stp 84 s)
theorem pL_at {L:List Sur} {k:Nat} {s:Sur} (h:L[k]? = some s):(pL L)[k]? = some (fnd L (stp 84 s)):=by simp [pL,h]
end Go.Proofs.Ytgcnemkhppkkcaa.orb

namespace Go.Proofs.Ytgcnemkhppkkcaa.orb
open Go.ChangeShapes Go.WideShapes Go.ChangeAt Go.RowKit
open mem ints arr pm sf fns permOf
set_option linter.unusedVariables false
set_option maxRecDepth 100000
theorem fnd_inj {L:List Sur} {x y:Sur} (hx:x ∈ L) (hy:y ∈ L) (e:fnd L x = fnd L y):x = y:=by
 obtain ⟨k,h1,h2,h3⟩:=fnd_get hx
 obtain ⟨j,g1,g2,g3⟩:=fnd_get hy
 obtain rfl:k = j:=by omega
 rw [h3] at g3
 exact Option.some.inj g3
theorem pL_bij {n:Nat} {s:Sur} {q:LW} (hs:Sf n s.1 s.2) (h:Oj n s q.1.length q):Bij q.1.length (pL q.1):=by
 have at_:∀ i,i < q.1.length->∃ x,q.1[i]? = some x/\x ∈ q.1/\(pL q.1).getD i 0 = fnd q.1 (stp 84 x)/\stp 84 x ∈ q.1:=fun i hi=>by
  have e:=List.getElem?_eq_getElem hi
  have hm:=List.getElem_mem hi
  refine ⟨_,e,hm,?_,h.step (.inl rfl) hm⟩
  rw [List.getD_eq_getElem?_getD,pL_at e];rfl
 refine ⟨fun i hi=>?_,fun i j hi hj e=>?_⟩
 ·obtain ⟨x,_,_,e,hm⟩:=at_ i hi
  obtain ⟨k,h1,h2,_⟩:=fnd_get hm
  rw [e,h1]
  omega
 ·obtain ⟨x,x1,x2,x3,x4⟩:=at_ i hi
  obtain ⟨y,y1,y2,y3,y4⟩:=at_ j hj
  rw [x3,y3] at e
  have:=h.inj hs (c:=84) (by decide) x2 y2 (fnd_inj x4 y4 e)
  subst this
  exact nd_at h.nd x1 y1
def cuC (L:List Sur) (k:Nat):List Int:=(cso (pL L) L.length k).map fun c=>(c.length:Int)
def cuL (r u:List Int):List Int:=if orbB r u then sortD (cuC (orbL r u) (orbL r u).length) else []
theorem cuL_no {r u:List Int} (h:orbB r u = false):cuL r u = []:=by simp [cuL,h]
theorem cuL_yes {r u:List Int} (h:orbB r u = true):cuL r u = sortD (cuC (orbL r u) (orbL r u).length):=by simp [cuL,h]
theorem cuC_same {L:List Sur} {k:Nat} (h:(k:Int) ∈ (cso (pL L) L.length k).flatten):cuC L (k + 1) = cuC L k:=by unfold cuC;rw [cso,if_pos h]
theorem cuC_next {L:List Sur} {k:Nat} (h:¬ (k:Int) ∈ (cso (pL L) L.length k).flatten):cuC L (k + 1) = cuC L k ++ [((cyc (pL L) L.length (k:Int)).length:Int)]:=by unfold cuC;rw [cso,if_neg h];simp
theorem cuC_len {L:List Sur} {k:Nat} (hb:Bij L.length (pL L)) (hk:k<=L.length):(cuC L k).length<=k:=by unfold cuC;rw [List.length_map];exact (cso_cs hb k hk).len
def CUPost (r u:List Int) (w:World) (e:Ending) (w':World):Prop :=
 ∃ A c,e = .returned (.tuple #[.slice A (cuL r u).length c,.bool (orbB r u)])/\Row w' w.heap.size w'.heap.size A (cuL r u).length (V (cuL r u))/\(cuL r u).length<=c/\Below w.heap.size w w'
theorem cu_no {r u:List Int} {w w':World} (h:orbB r u = false) (hb:Below w.heap.size w w'):CUPost r u w (.returned (.tuple #[.slice none 0 0,.bool false])) w':=by
 have e:=cuL_no h
 refine ⟨none,0,by rw [e,h];rfl,?_,by rw [e];simp,hb⟩
 rw [e]
 exact ⟨rfl,Nat.le_refl _,fun q=>absurd q (by simp)⟩
end Go.Proofs.Ytgcnemkhppkkcaa.orb

namespace Go.Proofs.Ytgcnemkhppkkcaa
open Go.Shelf
def sqp.lays189_ren:Go.Shelf.Ren:=⟨fun | 189=>59 | 125=>89 | 257=>88 | 128=>123 | 129=>124 | 294=>114 | 295=>115 | 296=>116 | 297=>117 | 298=>118 | 299=>119 | 216=>120 | 300=>121 | 301=>122 | 328=>136 | 329=>137 | 330=>138 | 331=>139 | 332=>140 | 215=>141 | 343=>143 | n=>n,fun | 28=>23 | 3=>3 | 46=>106 | 0=>0 | 51=>158 | 53=>160 | 4=>4 | 183=>150 | 182=>149 | 131=>155 | 5=>5 | 9=>9 | 218=>166 | 222=>170 | 228=>173 | 229=>174 | n=>n,fun | n=>n⟩
theorem sqp.lays189:Go.Proofs.Lays.n189 sqp.prog sqp.lays189_ren:={
 mixed:=by kernel_rfl
 f125:=sqp.func89.trans (congrArg some (by kernel_rfl))
 f128:=sqp.func123.trans (congrArg some (by kernel_rfl))
 f129:=sqp.func124.trans (congrArg some (by kernel_rfl))
 f189:=sqp.func59.trans (congrArg some (by kernel_rfl))
 f215:=sqp.func141.trans (congrArg some (by kernel_rfl))
 f216:=sqp.func120.trans (congrArg some (by kernel_rfl))
 f257:=sqp.func88.trans (congrArg some (by kernel_rfl))
 f294:=sqp.func114.trans (congrArg some (by kernel_rfl))
 f295:=sqp.func115.trans (congrArg some (by kernel_rfl))
 f296:=sqp.func116.trans (congrArg some (by kernel_rfl))
 f297:=sqp.func117.trans (congrArg some (by kernel_rfl))
 f298:=sqp.func118.trans (congrArg some (by kernel_rfl))
 f299:=sqp.func119.trans (congrArg some (by kernel_rfl))
 f300:=sqp.func121.trans (congrArg some (by kernel_rfl))
 f301:=sqp.func122.trans (congrArg some (by kernel_rfl))
 f328:=sqp.func136.trans (congrArg some (by kernel_rfl))
 f329:=sqp.func137.trans (congrArg some (by kernel_rfl))
 f330:=sqp.func138.trans (congrArg some (by kernel_rfl))
 f331:=sqp.func139.trans (congrArg some (by kernel_rfl))
 f332:=sqp.func140.trans (congrArg some (by kernel_rfl))
 f343:=sqp.func143.trans (congrArg some (by kernel_rfl))
 t0:=sqp.underlying0
 a0:=sqp.isAgg0
 z0:=sqp.sizeOf0
 v0:=sqp.zeroValue0
 t3:=sqp.underlying3
 a3:=sqp.isAgg3
 z3:=sqp.sizeOf3
 v3:=sqp.zeroValue3
 t4:=sqp.underlying4
 a4:=sqp.isAgg4
 z4:=sqp.sizeOf4
 v4:=sqp.zeroValue4
 t5:=sqp.underlying5
 a5:=sqp.isAgg5
 z5:=sqp.sizeOf5
 v5:=sqp.zeroValue5
 t9:=sqp.underlying9
 a9:=sqp.isAgg9
 z9:=sqp.sizeOf9
 v9:=sqp.zeroValue9
 t28:=sqp.underlying23
 a28:=sqp.isAgg23
 z28:=sqp.sizeOf23
 v28:=sqp.zeroValue23
 t46:=sqp.underlying106
 a46:=sqp.isAgg106
 z46:=sqp.sizeOf106
 v46:=sqp.zeroValue106
 t51:=sqp.underlying158
 a51:=sqp.isAgg158
 z51:=sqp.sizeOf158
 v51:=sqp.zeroValue158
 t53:=sqp.underlying160
 a53:=sqp.isAgg160
 z53:=sqp.sizeOf160
 v53:=sqp.zeroValue160
 t131:=sqp.underlying155
 a131:=sqp.isAgg155
 z131:=sqp.sizeOf155
 v131:=sqp.zeroValue155
 t182:=sqp.underlying149
 a182:=sqp.isAgg149
 z182:=sqp.sizeOf149
 v182:=sqp.zeroValue149
 t183:=sqp.underlying150
 a183:=sqp.isAgg150
 z183:=sqp.sizeOf150
 v183:=sqp.zeroValue150
 t218:=sqp.underlying166
 a218:=sqp.isAgg166
 z218:=sqp.sizeOf166
 v218:=sqp.zeroValue166
 t222:=sqp.underlying170
 a222:=sqp.isAgg170
 z222:=sqp.sizeOf170
 v222:=sqp.zeroValue170
 t228:=sqp.underlying173
 a228:=sqp.isAgg173
 z228:=sqp.sizeOf173
 v228:=sqp.zeroValue173
 t229:=sqp.underlying174
 a229:=sqp.isAgg174
 z229:=sqp.sizeOf174
 v229:=sqp.zeroValue174 }
open Go.Sort Go.RowKit in
theorem sqp.slices_Sort_int (blk off cap:Nat) (zs:List Int) (w:World) (hH:Holds (Value.int .i64) w blk off zs.toArray) (hblk:blk < w.heap.size) (hsz:zs.length < 4611686018427387904) :
  Calls sqp.prog 59 #[.slice (some ⟨blk,off,none⟩) zs.length cap] w fun e w' =>
   e = .returned (.tuple #[])/\∃ n os,w' = grow (putRow (Value.int .i64) (Sort.ahead w n) blk off (zs.mergeSort fun x y=>decide (x<=y)).toArray) os:=Any.slices_Sort_int sqp.lays189 blk off cap zs w hH hblk hsz
def sqp.lays112_ren:Go.Shelf.Ren:=⟨fun | 112=>60 | n=>n,fun | 28=>23 | 3=>3 | 4=>4 | 0=>0 | n=>n,fun | n=>n⟩
theorem sqp.lays112:Go.Proofs.Lays.n112 sqp.prog sqp.lays112_ren:={
 mixed:=by kernel_rfl
 f112:=sqp.func60.trans (congrArg some (by kernel_rfl))
 t0:=sqp.underlying0
 a0:=sqp.isAgg0
 z0:=sqp.sizeOf0
 v0:=sqp.zeroValue0
 t3:=sqp.underlying3
 a3:=sqp.isAgg3
 z3:=sqp.sizeOf3
 v3:=sqp.zeroValue3
 t4:=sqp.underlying4
 a4:=sqp.isAgg4
 z4:=sqp.sizeOf4
 v4:=sqp.zeroValue4
 t28:=sqp.underlying23
 a28:=sqp.isAgg23
 z28:=sqp.sizeOf23
 v28:=sqp.zeroValue23 }
open Go.RowKit Go.Lib Go.Sort in
theorem sqp.slices_Reverse_int (blk off cap:Nat) (zs:List Int) (w:World) (hH:Holds (Value.int .i64) w blk off zs.toArray) (hsz:zs.length<=9223372036854775807) :
  Calls sqp.prog 60 #[.slice (some ⟨blk,off,none⟩) zs.length cap] w fun e w'=>e = .returned (.tuple #[])/\∃ n,w' = putRow (Value.int .i64) (Sort.ahead w n) blk off zs.reverse.toArray:=Any.slices_Reverse_int sqp.lays112 blk off cap zs w hH hsz
end Go.Proofs.Ytgcnemkhppkkcaa
