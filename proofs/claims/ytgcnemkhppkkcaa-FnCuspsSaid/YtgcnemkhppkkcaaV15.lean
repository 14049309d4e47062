import Derived.Test.YtgcnemkhppkkcaaV04
import Derived.Test.YtgcnemkhppkkcaaV13
import Derived.Test.YtgcnemkhppkkcaaV14
import Derived.Test.YtgcnemkhppkkcaaV10
import Derived.Great.BuildSlice
import Derived.Calls
import Derived.WalkKit
import Derived.Conc.LoneCalls
namespace Go.Proofs.Ytgcnemkhppkkcaa.orb
open Go.ChangeShapes Go.WideShapes Go.ChangeAt Go.RowKit
open mem ints arr pm sf gl la
set_option linter.unusedVariables false
set_option maxRecDepth 100000
theorem rd_let (w:World) (z:Int) (g:Nat) (hg:w.heap.size = g):Rd (w.alloc (.cells #[.int .i64 z] 63)) (g + 1) (some ⟨g,0,none⟩) 1 (V [z]):=by
 subst hg
 have:=Rd.of_cells (w:=w.alloc (.cells #[.int .i64 z] 63)) (a:=⟨w.heap.size,0,none⟩) (n:=1) (xs:=V [z]) rfl (fun i hi=>by
  obtain rfl:i = 0:=by omega
  exact (Arr.new w (V [z]) 63 rfl).cell rfl)
 simpa using this
theorem infoGl:(sqp.prog.info? 62).map (fun i=>(i.zero,i.size,i.bytes)) = some (some (.agg #[.int .i64 0,.int .i64 0,.int .i64 0,.int .i64 0,.int .i64 0,.int .i64 0,.int .i64 0,.int .i64 0,.int .i64 0,.int .i64 0,.int .i64 0,.int .i64 0,.int .i64 0,.int .i64 0,.int .i64 0,.int .i64 0,.int .i64 0,.int .i64 0,.int .i64 0,.int .i64 0,.int .i64 0,.int .i64 0,.int .i64 0,.int .i64 0,.int .i64 0,.int .i64 0,.int .i64 0,.int .i64 0,.int .i64 0,.int .i64 0,.int .i64 0,.int .i64 0,.int .i64 0,.int .i64 0,.int .i64 0,.int .i64 0,.int .i64 0,.int .i64 0,.int .i64 0,.int .i64 0,.int .i64 0,.int .i64 0,.int .i64 0,.int .i64 0,.int .i64 0,.int .i64 0,.int .i64 0,.int .i64 0,.int .i64 0]),49,392):=by kernel_rfl
def fs (s:Sur) (n k:Nat):List Value:=(List.range k).flatMap fun j=>V (gS (cn (shN j s)) n)
theorem fs_len (s:Sur) (n k:Nat):(fs s n k).length = k * 49:=by
 induction k with
 | zero=>rfl
 | succ k ih=>unfold fs at *;rw [List.range_succ,List.flatMap_append,List.length_append,ih];simp [V,gS_len];omega
theorem fs_succ (s:Sur) (n k:Nat):fs s n (k + 1) = fs s n k ++ V (gS (cn (shN k s)) n):=by unfold fs;rw [List.range_succ,List.flatMap_append];simp
theorem cn_sh {n:Nat} {s:Sur} (h:Sf n s.1 s.2) (k:Nat):cn (shearS (cn (shN k s))) = cn (shN (k + 1) s):=by
 have:=cn_let (shN_sf h k) 84
 rw [shN]
 simpa [letS] using this
theorem eq_cn {n:Nat} {s t:Sur} (h1:Sf n s.1 s.2) (h2:Sf n t.1 t.2) (w:World) :
  (Op.equalIn 10000 62 (.agg (V (gS s n)).toArray) (.agg (V (gS t n)).toArray)).run sqp.prog w = .ok (decide (s = t)) w:=by
 unfold gS
 rw [eq_gl (ext_len _) (ext_len _) (ext_len _) (ext_len _)]
 congr 1
 rw [decide_eq_decide]
 constructor
 ·rintro ⟨q1,q2⟩
  have hn:n<=24:=by have:=h1.r.len;rw [h1.lr] at this;exact this
  exact Prod.ext (ext_inj (by rw [h1.lr,h2.lr]) (by rw [h1.lr];exact hn) q1) (ext_inj (by rw [h1.lu,h2.lu]) (by rw [h1.lu];exact hn) q2)
 ·intro q;rw [q];exact ⟨rfl,rfl⟩
theorem wpList_neq_gl {ops:Array Oper} {rest:List Oper} {o:Oper} {a:Act} {w:World} {Q:Exit->Act->World->Prop} (hgd:o.guard = none) (x y:Operand) (rt:TypeId) (ho:o.op = .binOp .neq 62 x y rt)
  (xs ys:Array Value) (hx:a.eval x = .agg xs) (hy:a.eval y = .agg ys) (b:Bool) (he:(Op.equalIn 10000 62 (.agg xs) (.agg ys)).run sqp.prog w = .ok b w)
  (h:wpList sqp.prog ops Q rest (a.put o.dst (.bool (!b))) w):wpList sqp.prog ops Q (o :: rest) a w:=by
 refine wpList_plain hgd fun K hK=>?_
 unfold Oper.wp execOp
 simp only [ho,hx,hy,Sem.run_bind,run_eqGuard_agg w .neq _ x y xs ys (show sqp.prog.eqGuardType sqp.prog.depth 62 = false by kernel_rfl),Result.andThen_ok,run_neq_struct,he,Sem.run_pure]
 exact hK _ _ h
theorem wpList_bs_gl {ops:Array Oper} {rest:List Oper} {o:Oper} {a:Act} {w:World} {Q:Exit->Act->World->Prop} (hgd:o.guard = none) (x:Operand) (ho:o.op = .buildSlice 90 1 #[(0,x)])
  (L:List Int) (hL:L.length = 49) (hx:a.eval x = .agg (V L).toArray)
  (h:wpList sqp.prog ops Q rest (a.put o.dst (.slice (some ⟨w.heap.size,0,none⟩) 1 1)) (w.alloc (.cells (V L).toArray 62))):wpList sqp.prog ops Q (o :: rest) a w:=by
 obtain ⟨i,hi,hz,hs,hb⟩:=info_parts infoGl
 refine wpList_buildSlice hgd 90 62 1 _ ho (V L).toArray i _ sqp.underlying90 hi hz (by rw [hs];decide) (by rw [hs];decide) ?_ h
 rw [hs]
 have:=Great.fill_whole (s:=49) (by decide) [.agg (V L).toArray] ((Array.range (1 * 49)).map ((Value.agg #[.int .i64 0,.int .i64 0,.int .i64 0,.int .i64 0,.int .i64 0,.int .i64 0,.int .i64 0,.int .i64 0,.int .i64 0,.int .i64 0,.int .i64 0,.int .i64 0,.int .i64 0,.int .i64 0,.int .i64 0,.int .i64 0,.int .i64 0,.int .i64 0,.int .i64 0,.int .i64 0,.int .i64 0,.int .i64 0,.int .i64 0,.int .i64 0,.int .i64 0,.int .i64 0,.int .i64 0,.int .i64 0,.int .i64 0,.int .i64 0,.int .i64 0,.int .i64 0,.int .i64 0,.int .i64 0,.int .i64 0,.int .i64 0,.int .i64 0,.int .i64 0,.int .i64 0,.int .i64 0,.int .i64 0,.int .i64 0,.int .i64 0,.int .i64 0,.int .i64 0,.int .i64 0,.int .i64 0,.int .i64 0,.int .i64 0]).cells[· % (Value.agg #[.int .i64 0,.int .i64 0,.int .i64 0,.int .i64 0,.int .i64 0,.int .i64 0,.int .i64 0,.int .i64 0,.int .i64 0,.int .i64 0,.int .i64 0,.int .i64 0,.int .i64 0,.int .i64 0,.int .i64 0,.int .i64 0,.int .i64 0,.int .i64 0,.int .i64 0,.int .i64 0,.int .i64 0,.int .i64 0,.int .i64 0,.int .i64 0,.int .i64 0,.int .i64 0,.int .i64 0,.int .i64 0,.int .i64 0,.int .i64 0,.int .i64 0,.int .i64 0,.int .i64 0,.int .i64 0,.int .i64 0,.int .i64 0,.int .i64 0,.int .i64 0,.int .i64 0,.int .i64 0,.int .i64 0,.int .i64 0,.int .i64 0,.int .i64 0,.int .i64 0,.int .i64 0,.int .i64 0,.int .i64 0,.int .i64 0]).cells.size]!)) (by simp [Value.cells,V_len,hL]) (by simp)
 simpa [hx,Value.cells] using this
theorem after_gS (s:Sur) (n:Nat) (G:List Int) (hG:gS s n = G) (A:Option Addr) (hi:Nat) (w:World) (hL:Rd w hi A 1 (V [0])) (hh:hi<=w.heap.size) (hs:Sf n s.1 s.2) :
  Calls sqp.prog 73 #[.agg (V G).toArray,.slice A 1 1] w fun e w'=>e = .returned (.agg (V (gS (shearS s) n)).toArray)/\Below w.heap.size w w':=by
 subst hG
 have h1:la.runN [0] = shearS:=by funext s;simp [la.runN,letN]
 have:=after_any s.1 s.2 n A 1 1 [0] hi w hL hh (by simp) hs (by omega)
 rw [h1] at this
 exact this
theorem form_gS (s:Sur) (n:Nat) (w:World) (hs:Sf n s.1 s.2) :
  Calls sqp.prog 68 #[.agg (V (gS s n)).toArray] w fun e w'=>e = .returned (.agg (V (gS (cn s) n)).toArray)/\Below w.heap.size w w':=form_any s.1 s.2 n w hs
def slen:Value->Nat
 | .slice _ n _=>n
 | _=>0
structure Sy (w wr:World) (s:Sur) (n b3 k b:Nat) (v:Value):Prop where
 sg:Sg s k
 ex:∃ A c,v = .slice A k c/\wr.ownsRow w.heap.size 62 49 v k (fs s n k)
 nv:v.ownBlock ≠ some b/\v.ownBlock ≠ some b3
 nx:Arr wr b (V (gS (cn (shN k s)) n)) 62
 first:Arr wr b3 (V (gS (cn s) n)) 62
 bel:Below w.heap.size w wr
 lo:w.heap.size<=b/\w.heap.size<=b3
 ne:b ≠ b3
set_option maxHeartbeats 4000000 in
theorem shearCycle_any (r u:List Int) (n:Nat) (w:World) (hs:Sf n r u) :
  Calls sqp.prog 58 #[.agg (V (gl (ext r) (ext u) n)).toArray] w fun e w'=>∃ A k c,e = .returned (.slice A k c)/\spGo (r,u) 16777216 1 = k/\k<=16777216/\w'.ownsRow w.heap.size 62 49 (.slice A k c) k (fs (r,u) n k)/\Below w.heap.size w w':=by
 have HS:Hid (Sf n (r,u).1 (r,u).2):=Lib.hid hs;clear hs
 have G49:(gl (ext r) (ext u) n).length = 49:=gl_len (ext_len _) (ext_len _) _
 have HL:Hid (∀ s:Sur,(gS s n).length = 49):=Lib.hid (fun s=>gS_len s n)
 go_enter sqp.func58,sqp.ntmps58
 go_wp2_with (first | (refine wpList_load_row rfl 62 _ rfl w.heap.size rfl 62 (V (gl (ext r) (ext u) n)).toArray (0,0) _ (Arr.new w _ _ rfl) sqp.underlying62 rfl (size49 G49) ?_) | fail)
 generalize hw1:w.alloc (.cells (V (gl (ext r) (ext u) n)).toArray 62) = w1
 have B1:Hid (Below w.heap.size w w1):=Lib.hid (by rw [<-hw1];exact (Below.refl _ _).alloc (Nat.le_refl _) _)
 have s1:w1.heap.size = w.heap.size + 1:=by rw [<-hw1];simp
 clear hw1
 refine (form_any r u n _ HS.out).mono ?_
 rintro e w2 ⟨rfl,b1⟩
 have s2:=b1.size
 replace B1:=Lib.hid (B1.out.trans (b1.mono B1.out.size));clear b1
 have L1:=HL.out (cn (r,u))
 generalize hG:gS (cn (r,u)) n = G at *
 go_wp2_with (first | (refine wpList_store_row rfl 62 _ _ rfl w2.heap.size (V (G)).toArray rfl rfl 62 (V zero49).toArray (Arr.new w2 (V zero49) _ rfl) (size49 L1) (by simp [V_len,L1,zero49]) (one_V _) ?_;generalize hw3:(w2.alloc (.cells #[.int .i64 0,.int .i64 0,.int .i64 0,.int .i64 0,.int .i64 0,.int .i64 0,.int .i64 0,.int .i64 0,.int .i64 0,.int .i64 0,.int .i64 0,.int .i64 0,.int .i64 0,.int .i64 0,.int .i64 0,.int .i64 0,.int .i64 0,.int .i64 0,.int .i64 0,.int .i64 0,.int .i64 0,.int .i64 0,.int .i64 0,.int .i64 0,.int .i64 0,.int .i64 0,.int .i64 0,.int .i64 0,.int .i64 0,.int .i64 0,.int .i64 0,.int .i64 0,.int .i64 0,.int .i64 0,.int .i64 0,.int .i64 0,.int .i64 0,.int .i64 0,.int .i64 0,.int .i64 0,.int .i64 0,.int .i64 0,.int .i64 0,.int .i64 0,.int .i64 0,.int .i64 0,.int .i64 0,.int .i64 0,.int .i64 0] 62)).setRow w2.heap.size (V G).toArray = w3;have A3:Hid (Arr w3 w2.heap.size (V G) 62):=Lib.hid (by rw [<-hw3];exact (Arr.new w2 (V zero49) _ rfl).row);have b1:Below w2.heap.size w2 w3:=(by rw [<-hw3];exact arr.below_setRow ((Below.refl _ _).alloc (Nat.le_refl _) _) (Nat.le_refl _) _);have s3:=b1.size;replace B1:=Lib.hid (B1.out.trans (b1.mono B1.out.size));clear hw3 b1) | (refine wpList_bs_gl rfl _ rfl G L1 rfl ?_;generalize hw4:w3.alloc (.cells (V G).toArray 62) = w4;have A4:Hid (Arr w4 w2.heap.size (V G) 62):=Lib.hid (by rw [<-hw4];exact A3.out.alloc _);have B4:Hid (Below w.heap.size w w4):=Lib.hid (by rw [<-hw4];exact B1.out.alloc B1.out.size _);have O4:Hid (w4.ownsRow w.heap.size 62 49 (.slice (some ⟨w3.heap.size,0,none⟩) 1 1) 1 (V G)):=Lib.hid (by rw [<-hw4];simpa using World.ownsRow_lit w3 (V G).toArray 1 B1.out.size (by decide) (by simp [V_len,L1]));have s4:w4.heap.size = w3.heap.size + 1:=(by rw [<-hw4];simp);clear hw4) | (refine wpList_load_row rfl 62 _ rfl w2.heap.size rfl 62 (V (G)).toArray (0,0) _ A3.out sqp.underlying62 rfl (size49 L1) ?_) | (refine wpList_load_row rfl 62 _ rfl w2.heap.size rfl 62 (V (G)).toArray (0,0) _ A4.out sqp.underlying62 rfl (size49 L1) ?_) | fail)
 have RD:=Lib.hid (rd_let w4 0 (w3.heap.size + 1) s4)
 have b1:Below w4.heap.size w4 (w4.alloc (.cells #[.int .i64 0] 63)):=(Below.refl _ _).alloc (Nat.le_refl _) _
 have s5:(w4.alloc (.cells #[.int .i64 0] 63)).heap.size = w3.heap.size + 2:=by simp [s4]
 generalize w4.alloc (.cells #[.int .i64 0] 63) = w5 at *
 refine (after_gS (cn (r,u)) n G hG _ _ _ RD.out (by omega) (cn_sf HS.out)).mono ?_
 rintro e w6 ⟨rfl,b2⟩
 have s6:=b2.size
 go_wp2_with fail
 refine (form_gS (shearS (cn (r,u))) n _ (shN_sf (s:=cn (r,u)) (cn_sf HS.out) 1)).mono ?_
 rintro e w7 ⟨rfl,b3⟩
 have s7:=b3.size
 rw [show cn (shearS (cn (r,u))) = cn (shN 1 (r,u)) from cn_sh (s:=(r,u)) HS.out 0]
 have b4:=(b1.trans (b2.mono (by omega))).trans (b3.mono (by omega))
 have A7:=Lib.hid (A4.out.keep b4 A4.out.lt)
 have B7:=Lib.hid (B4.out.trans (b4.mono B4.out.size))
 have O7:Hid (w7.ownsRow w.heap.size 62 49 (.slice (some ⟨w3.heap.size,0,none⟩) 1 1) 1 (V G)):=Lib.hid (own_block_keep O4.out (fun b hb=>by
  have e:w3.heap.size = b:=by simpa [Value.ownBlock] using hb
  exact b4.block b (by omega)))
 clear b1 b2 b3 b4 RD A4 B4 O4
 have L2:=HL.out (cn (shN 1 (r,u)))
 generalize hG1:gS (cn (shN 1 (r,u))) n = G1 at *
 go_wp2_with (first | (refine wpList_store_row rfl 62 _ _ rfl w7.heap.size (V (G1)).toArray rfl rfl 62 (V zero49).toArray (Arr.new w7 (V zero49) _ rfl) (size49 L2) (by simp [V_len,L2,zero49]) (one_V _) ?_;generalize hw8:(w7.alloc (.cells #[.int .i64 0,.int .i64 0,.int .i64 0,.int .i64 0,.int .i64 0,.int .i64 0,.int .i64 0,.int .i64 0,.int .i64 0,.int .i64 0,.int .i64 0,.int .i64 0,.int .i64 0,.int .i64 0,.int .i64 0,.int .i64 0,.int .i64 0,.int .i64 0,.int .i64 0,.int .i64 0,.int .i64 0,.int .i64 0,.int .i64 0,.int .i64 0,.int .i64 0,.int .i64 0,.int .i64 0,.int .i64 0,.int .i64 0,.int .i64 0,.int .i64 0,.int .i64 0,.int .i64 0,.int .i64 0,.int .i64 0,.int .i64 0,.int .i64 0,.int .i64 0,.int .i64 0,.int .i64 0,.int .i64 0,.int .i64 0,.int .i64 0,.int .i64 0,.int .i64 0,.int .i64 0,.int .i64 0,.int .i64 0,.int .i64 0] 62)).setRow w7.heap.size (V G1).toArray = w8;have A8:Hid (Arr w8 w7.heap.size (V G1) 62):=Lib.hid (by rw [<-hw8];exact (Arr.new w7 (V zero49) _ rfl).row);have b8:Below w7.heap.size w7 w8:=(by rw [<-hw8];exact arr.below_setRow ((Below.refl _ _).alloc (Nat.le_refl _) _) (Nat.le_refl _) _);have s8:=b8.size;clear hw8) | fail)
 have hSY:Sy w w8 (r,u) n w2.heap.size 1 w7.heap.size (.slice (some ⟨w3.heap.size,0,none⟩) 1 1):=⟨Sg.start _,⟨_,_,rfl,by rw [show fs (r,u) n 1 = V G by simp [fs,shN,hG]];exact own_block_keep O7.out (fun b hb=>by
   have e:w3.heap.size = b:=by simpa [Value.ownBlock] using hb
   exact b8.block b (by omega))⟩,⟨fun e=>by simp [Value.ownBlock] at e;omega,fun e=>by have:=A3.out.lt;simp [Value.ownBlock] at e;omega⟩,by rw [hG1];exact A8.out,by rw [hG];exact A7.out.keep b8 A7.out.lt,B7.out.trans (b8.mono B7.out.size),⟨by have:=B7.out.size;omega,by have:=B1.out.size;omega⟩,by omega⟩
 have HSY:=Lib.hid hSY;clear hSY A7 B7 O7 A8 b8 A3 B1 s8
 simp only [Act.put]
 go_loopw [4,5] (fun v4 v5 wr=>∃ (k b:Nat),v5 = .pointer (some ⟨b,0,none⟩)/\Sy w wr (r,u) n w2.heap.size k b v4) (fun v4 _ _=>16777217 - slen v4)
 case atStart=>exact ⟨_,_,rfl,HSY.out⟩
 case round =>
  clear HSY
  obtain ⟨k,b,rfl,hsy⟩:=hrel
  obtain ⟨A,c,hv,ho⟩:=hsy.ex
  subst hv
  have PR:=Lib.hid hsy;have O0:=Lib.hid ho;clear hsy ho
  have hkb:=PR.out.sg.le HS.out
  have E0:Hid (∀ W,(Op.equalIn 10000 62 (.agg (V (gS (cn (shN k (r,u))) n)).toArray) (.agg (V (gS (cn (r,u)) n)).toArray)).run sqp.prog W = .ok (decide (cn (shN k (r,u)) = cn (r,u))) W):=Lib.hid (fun W=>eq_cn (cn_sf (shN_sf HS.out k)) (cn_sf HS.out) W)
  by_cases he:cn (shN k (r,u)) = cn (r,u)
  ·have SE:=Lib.hid (PR.out.sg.done he)
   rw [show decide (cn (shN k (r,u)) = cn (r,u)) = true by simp [he]] at E0
   clear he
   go_wp2_with (first | (refine wpList_load_row rfl 62 _ rfl b rfl 62 (V (gS (cn (shN k (r,u))) n)).toArray (0,0) _ PR.out.nx sqp.underlying62 rfl (size49 (HL.out _)) ?_) | (refine wpList_load_row rfl 62 _ rfl w2.heap.size rfl 62 (V (gS (cn (r,u)) n)).toArray (0,0) _ PR.out.first sqp.underlying62 rfl (size49 (HL.out _)) ?_) | (refine wpList_neq_gl rfl _ _ _ rfl _ _ rfl rfl true (E0.out _) ?_) | fail)
   go_ret
   exact ⟨A,k,c,rfl,SE.out,by omega,O0.out,PR.out.bel⟩
  ·have SE:=Lib.hid (PR.out.sg.next HS.out he)
   have hkb2:=SE.out.le HS.out
   rw [show decide (cn (shN k (r,u)) = cn (r,u)) = false by simp [he]] at E0
   clear he
   have LK:=HL.out (cn (shN k (r,u)))
   have NX:Hid (Arr wr b (V (gS (cn (shN k (r,u))) n)) 62):=Lib.hid PR.out.nx
   generalize hGK:gS (cn (shN k (r,u))) n = GK at *
   obtain ⟨i0,hi0,hz0,hz1,hz2⟩:=info_parts infoGl
   go_wp2_with (first | (refine wpList_load_row rfl 62 _ rfl b rfl 62 (V (GK)).toArray (0,0) _ NX.out sqp.underlying62 rfl (size49 LK) ?_) | (refine wpList_load_row rfl 62 _ rfl w2.heap.size rfl 62 (V (gS (cn (r,u)) n)).toArray (0,0) _ PR.out.first sqp.underlying62 rfl (size49 (HL.out _)) ?_) | (refine wpList_neq_gl rfl _ _ _ rfl _ _ rfl rfl false (E0.out _) ?_) | (refine wpList_bs_gl rfl _ rfl GK LK rfl ?_) | (at_builtin;refine wpList_append_lies (wr.alloc (.cells (V GK).toArray 62)) rfl _ _ 90 rfl w.heap.size 62 i0 _ 49 392 sqp.underlying90 hi0 hz0 hz1 hz2 rfl (by decide) _ k (fs (r,u) n k) rfl (O0.out.alloc _) ⟨wr.heap.size,0,none⟩ 1 1 (V GK) rfl (by simp [V_len,LK]) ?hn ?h1 (by decide) ?c4 ?c5 ?c6 _ rfl ?_) | fail)
   case h1=>intro q hq;obtain ⟨z,_,rfl⟩:=List.mem_map.1 hq;rfl
   case c4=>unfold maxLen;omega
   case c5=>omega
   case c6=>have:=PR.out.bel.size;simp;omega
   intro g7 cap7 w7 ho hg hb hlt7
   have hgs:=hg.size
   have hsz7:wr.heap.size + 1<=w7.heap.size:=by simpa using hgs
   have hOlt:=O0.out.lt
   have hwr:=PR.out.bel.size
   have far:∀ q,q < wr.heap.size->(Value.slice A k c).ownBlock ≠ some q->w7.heap[q]? = wr.heap[q]?:=fun q h1 h2=>(hg.block _ (by simp;omega) (fun e=>h2 e.symm)).trans (heap_alloc_old wr _ h1)
   have N7:Hid (Arr w7 b (V GK) 62):=Lib.hid ((far b NX.out.lt PR.out.nv.1).trans NX.out)
   have F7:Hid (Arr w7 w2.heap.size (V (gS (cn (r,u)) n)) 62):=Lib.hid ((far _ PR.out.first.lt PR.out.nv.2).trans PR.out.first)
   have B7:Hid (Below w.heap.size w w7):=Lib.hid ⟨(hg.os.trans (by rfl)).trans PR.out.bel.os,(hg.tape.trans (by rfl)).trans PR.out.bel.tape,(hg.output.trans (by rfl)).trans PR.out.bel.output,by omega,fun q hq=>(far q (by omega) (fun e=>by have:=(hOlt q e).1;omega)).trans (PR.out.bel.block q hq)⟩
   have O7:Hid (w7.ownsRow w.heap.size 62 49 (.slice (some ⟨g7,0,none⟩) (k + 1) cap7) (k + 1) (fs (r,u) n (k + 1))):=Lib.hid (by rw [fs_succ,hGK];exact ho)
   have G7:Hid (g7 ≠ b/\g7 ≠ w2.heap.size/\g7 < w7.heap.size):=Lib.hid ⟨fun e=>by
    rcases hb with q | q
    ·exact PR.out.nv.1 (by rw [q,e])
    ·have:=NX.out.lt;(try simp at q);omega,fun e=>by
    rcases hb with q | q
    ·exact PR.out.nv.2 (by rw [q,e])
    ·have:=PR.out.first.lt;(try simp at q);omega,hlt7⟩
   have hbl:=PR.out.lo
   have hF3:=F7.out.lt
   clear hb ho hg far hOlt O0 PR NX E0 hlt7 hgs
   go_wp2_with (first | (refine wpList_load_row rfl 62 _ rfl b rfl 62 (V (GK)).toArray (0,0) _ N7.out sqp.underlying62 rfl (size49 LK) ?_) | (refine wpList_store_row rfl 62 _ _ rfl w7.heap.size (V (GK)).toArray rfl rfl 62 (V zero49).toArray (Arr.new w7 (V zero49) _ rfl) (size49 LK) (by simp [V_len,LK,zero49]) (one_V _) ?_;generalize hw8:(w7.alloc (.cells #[.int .i64 0,.int .i64 0,.int .i64 0,.int .i64 0,.int .i64 0,.int .i64 0,.int .i64 0,.int .i64 0,.int .i64 0,.int .i64 0,.int .i64 0,.int .i64 0,.int .i64 0,.int .i64 0,.int .i64 0,.int .i64 0,.int .i64 0,.int .i64 0,.int .i64 0,.int .i64 0,.int .i64 0,.int .i64 0,.int .i64 0,.int .i64 0,.int .i64 0,.int .i64 0,.int .i64 0,.int .i64 0,.int .i64 0,.int .i64 0,.int .i64 0,.int .i64 0,.int .i64 0,.int .i64 0,.int .i64 0,.int .i64 0,.int .i64 0,.int .i64 0,.int .i64 0,.int .i64 0,.int .i64 0,.int .i64 0,.int .i64 0,.int .i64 0,.int .i64 0,.int .i64 0,.int .i64 0,.int .i64 0,.int .i64 0] 62)).setRow w7.heap.size (V GK).toArray = w8;have A8:Hid (Arr w8 w7.heap.size (V GK) 62):=Lib.hid (by rw [<-hw8];exact (Arr.new w7 (V zero49) _ rfl).row);have b8:Below w7.heap.size w7 w8:=(by rw [<-hw8];exact arr.below_setRow ((Below.refl _ _).alloc (Nat.le_refl _) _) (Nat.le_refl _) _);have s8:=b8.size;have a8:=A8.out.lt;have F8:=Lib.hid (F7.out.keep b8 F7.out.lt);have B8:=Lib.hid (B7.out.trans (b8.mono B7.out.size));have O8:Hid (w8.ownsRow w.heap.size 62 49 (.slice (some ⟨g7,0,none⟩) (k + 1) cap7) (k + 1) (fs (r,u) n (k + 1))):=Lib.hid (own_block_keep O7.out (fun q hq=>by (have e:g7 = q:=(by simpa [Value.ownBlock] using hq));exact b8.block q (by have:=G7.out.2.2;omega)));clear hw8 b8 F7 B7 O7 N7) | (refine wpList_load_row rfl 62 _ rfl w7.heap.size rfl 62 (V (GK)).toArray (0,0) _ A8.out sqp.underlying62 rfl (size49 LK) ?_) | fail)
   have RD:=Lib.hid (rd_let w8 0 w8.heap.size rfl)
   have b1:Below w8.heap.size w8 (w8.alloc (.cells #[.int .i64 0] 63)):=(Below.refl _ _).alloc (Nat.le_refl _) _
   have s9:(w8.alloc (.cells #[.int .i64 0] 63)).heap.size = w8.heap.size + 1:=by simp
   generalize w8.alloc (.cells #[.int .i64 0] 63) = w9 at *
   refine (after_gS (cn (shN k (r,u))) n GK hGK _ _ _ RD.out (by omega) (cn_sf (shN_sf HS.out k))).mono ?_
   rintro e w10 ⟨rfl,b2⟩
   have s10:=b2.size
   go_wp2_with fail
   refine (form_gS (shearS (cn (shN k (r,u)))) n _ (shN_sf (s:=cn (shN k (r,u))) (cn_sf (shN_sf HS.out k)) 1)).mono ?_
   rintro e w11 ⟨rfl,b3⟩
   have s11:=b3.size
   rw [show cn (shearS (cn (shN k (r,u)))) = cn (shN (k + 1) (r,u)) from cn_sh (s:=(r,u)) HS.out k]
   have b4:=(b1.trans (b2.mono (by omega))).trans (b3.mono (by omega))
   replace A8:=Lib.hid (A8.out.keep b4 A8.out.lt)
   replace F8:=Lib.hid (F8.out.keep b4 F8.out.lt)
   replace B8:=Lib.hid (B8.out.trans (b4.mono B8.out.size))
   replace O8:Hid (w11.ownsRow w.heap.size 62 49 (.slice (some ⟨g7,0,none⟩) (k + 1) cap7) (k + 1) (fs (r,u) n (k + 1))):=Lib.hid (own_block_keep O8.out (fun q hq=>by
    have e:g7 = q:=by simpa [Value.ownBlock] using hq
    exact b4.block q (by have:=G7.out.2.2;omega)))
   clear b1 b2 b3 b4 RD
   have LN:=HL.out (cn (shN (k + 1) (r,u)))
   generalize hGN:gS (cn (shN (k + 1) (r,u))) n = GN at *
   go_wp2_with (first | (refine wpList_store_row rfl 62 _ _ rfl w7.heap.size (V (GN)).toArray rfl rfl 62 (V GK).toArray A8.out (size49 LN) (by simp [V_len,LN,LK]) (one_V _) ?_) | fail)
   simp only [Act.put]
   go_roundw
   case rel=>exact ⟨k + 1,w7.heap.size,rfl,SE.out,⟨_,_,rfl,own_block_keep O8.out (fun q hq=>by
     have e:g7 = q:=by simpa [Value.ownBlock] using hq
     exact setRow_other _ _ _ _ (fun e'=>by have:=G7.out.2.2;omega))⟩,⟨fun e=>by have:=G7.out.2.2;simp [Value.ownBlock] at e;omega,fun e=>by have:=G7.out.2.1;simp [Value.ownBlock] at e;omega⟩,by rw [hGN];exact A8.out.row,(setRow_other _ _ _ _ (by omega)).trans F8.out,below_setRow B8.out (by omega) _,⟨by omega,hbl.2⟩,by omega⟩
   case measure=>simp [slen];omega
set_option maxHeartbeats 1000000 in
theorem sp_impl (v:Value) (r u:List Int) (hi:Nat) (w:World) (hx:Srd w hi v r u) (hn:r.length<=1048576) (hm:u.length<=1048576) :
  Calls sqp.prog 30 #[v] w fun e w'=>e = .returned (.int .i64 (spF r u))/\Below w.heap.size w w':=by
 have HX:=Lib.hid hx
 obtain ⟨P,n,c,Q,m,d,rfl,q1,q2,e1,e2,ht,HR⟩:=hx.open
 have L1:=Lib.hid q1
 clear hx
 go_enter sqp.func30,sqp.ntmps30
 go_wp2_with fail
 refine (gluingOf_any _ r u hi _ (HX.out.keep ((Below.refl hi w).alloc ht _) (Nat.le_refl _)) hn hm).mono ?_
 rintro e w1 ⟨rfl,b1⟩
 have B1:=Lib.hid (below1 _ _ b1);clear b1
 cases hq:transB r u
 ·have Z1:Hid (spF r u = 0):=Lib.hid (by simp [spF,hq])
  go_wp2_with (first | (refine wpList_store_row rfl 62 _ _ rfl w1.heap.size (V (glv r u)).toArray rfl rfl 62 (V zero49).toArray (Arr.new w1 (V zero49) _ rfl) (size49 (glv_len _ _)) (by simp [V_len,glv_len,zero49]) (one_V _) ?_;generalize hw2:(w1.alloc (.cells #[.int .i64 0,.int .i64 0,.int .i64 0,.int .i64 0,.int .i64 0,.int .i64 0,.int .i64 0,.int .i64 0,.int .i64 0,.int .i64 0,.int .i64 0,.int .i64 0,.int .i64 0,.int .i64 0,.int .i64 0,.int .i64 0,.int .i64 0,.int .i64 0,.int .i64 0,.int .i64 0,.int .i64 0,.int .i64 0,.int .i64 0,.int .i64 0,.int .i64 0,.int .i64 0,.int .i64 0,.int .i64 0,.int .i64 0,.int .i64 0,.int .i64 0,.int .i64 0,.int .i64 0,.int .i64 0,.int .i64 0,.int .i64 0,.int .i64 0,.int .i64 0,.int .i64 0,.int .i64 0,.int .i64 0,.int .i64 0,.int .i64 0,.int .i64 0,.int .i64 0,.int .i64 0,.int .i64 0,.int .i64 0,.int .i64 0] 62)).setRow w1.heap.size (V (glv r u)).toArray = w2;have A2:Hid (Arr w2 w1.heap.size (V (glv r u)) 62):=Lib.hid (by rw [<-hw2];exact (Arr.new w1 (V zero49) _ rfl).row);have b1:Below w1.heap.size w1 w2:=(by rw [<-hw2];exact arr.below_setRow ((Below.refl _ _).alloc (Nat.le_refl _) _) (Nat.le_refl _) _);have s2:=b1.size;replace B1:Hid (Below w.heap.size w w2):=Lib.hid (B1.out.trans (b1.mono B1.out.size));clear hw2 b1) | fail)
  go_ret
  exact ⟨ret_int Z1.out.symm,B1.out⟩
 ·have Z1:Hid (spF r u = (spGo (r,u) 16777216 1:Nat)):=Lib.hid (by simp [spF,hq])
  have HS:Hid (Sf n r u):=Lib.hid (by have:=transB_iff.1 hq;rwa [L1.out] at this)
  have HG:Hid (glv r u = gl (ext r) (ext u) n):=Lib.hid (by rw [glv_yes hq,L1.out])
  clear hq
  go_wp2_with (first | (refine wpList_store_row rfl 62 _ _ rfl w1.heap.size (V (glv r u)).toArray rfl rfl 62 (V zero49).toArray (Arr.new w1 (V zero49) _ rfl) (size49 (glv_len _ _)) (by simp [V_len,glv_len,zero49]) (one_V _) ?_;generalize hw2:(w1.alloc (.cells #[.int .i64 0,.int .i64 0,.int .i64 0,.int .i64 0,.int .i64 0,.int .i64 0,.int .i64 0,.int .i64 0,.int .i64 0,.int .i64 0,.int .i64 0,.int .i64 0,.int .i64 0,.int .i64 0,.int .i64 0,.int .i64 0,.int .i64 0,.int .i64 0,.int .i64 0,.int .i64 0,.int .i64 0,.int .i64 0,.int .i64 0,.int .i64 0,.int .i64 0,.int .i64 0,.int .i64 0,.int .i64 0,.int .i64 0,.int .i64 0,.int .i64 0,.int .i64 0,.int .i64 0,.int .i64 0,.int .i64 0,.int .i64 0,.int .i64 0,.int .i64 0,.int .i64 0,.int .i64 0,.int .i64 0,.int .i64 0,.int .i64 0,.int .i64 0,.int .i64 0,.int .i64 0,.int .i64 0,.int .i64 0,.int .i64 0] 62)).setRow w1.heap.size (V (glv r u)).toArray = w2;have A2:Hid (Arr w2 w1.heap.size (V (glv r u)) 62):=Lib.hid (by rw [<-hw2];exact (Arr.new w1 (V zero49) _ rfl).row);have b1:Below w1.heap.size w1 w2:=(by rw [<-hw2];exact arr.below_setRow ((Below.refl _ _).alloc (Nat.le_refl _) _) (Nat.le_refl _) _);have s2:=b1.size;replace B1:Hid (Below w.heap.size w w2):=Lib.hid (B1.out.trans (b1.mono B1.out.size));clear hw2 b1;rw [HG.out] at A2) | (refine wpList_load_row rfl 62 _ rfl w1.heap.size rfl 62 (V (gl (ext r) (ext u) n)).toArray (0,0) _ A2.out sqp.underlying62 rfl (size49 (gl_len (ext_len _) (ext_len _) _)) ?_) | fail)
  refine (shearCycle_any r u n _ HS.out).mono ?_
  rintro e w3 ⟨A,k,cc,rfl,hk,_,_,b1⟩
  replace B1:=Lib.hid (B1.out.trans (b1.mono B1.out.size))
  have HK:=Lib.hid hk
  clear b1 A2 hk
  go_wp2_with fail
  go_ret
  exact ⟨ret_int (by rw [Z1.out,HK.out]),B1.out⟩
end Go.Proofs.Ytgcnemkhppkkcaa.orb

namespace Go.Proofs.Ytgcnemkhppkkcaa.gl
open Go.ChangeShapes Go.WideShapes Go.ChangeAt Go.RowKit
open mem ints arr pm permOk permOf inv fns sf
set_option linter.unusedVariables false
set_option maxRecDepth 100000
theorem can_len (r u:List Int) {n:Nat} (h:0 < n):(can r u n).1.length = n/\(can r u n).2.length = n:=by
 obtain ⟨j,hj,e⟩:=can_is (R:=r) (U:=u) h
 rw [e];exact Fm_len _ _ _ _
end Go.Proofs.Ytgcnemkhppkkcaa.gl

namespace Go.Proofs.Ytgcnemkhppkkcaa.gl
open Go.ChangeShapes Go.WideShapes Go.ChangeAt Go.RowKit
open mem ints arr pm permOk permOf inv fns sf
set_option linter.unusedVariables false
set_option maxRecDepth 100000
def isoF (r u r' u':List Int):Bool:=transB r u && (transB r' u' && sameF (can r u r.length).1 (can r u r.length).2 (can r' u' r'.length).1 (can r' u' r'.length).2)
theorem iso_no1 {r u r' u':List Int} (h:transB r u = false):isoF r u r' u' = false:=by simp [isoF,h]
theorem iso_no2 {r u r' u':List Int} (h:transB r' u' = false):isoF r u r' u' = false:=by simp [isoF,h]
theorem iso_yes {r u r' u':List Int} (h:transB r u = true) (h':transB r' u' = true):isoF r u r' u' = sameF (can r u r.length).1 (can r u r.length).2 (can r' u' r'.length).1 (can r' u' r'.length).2:=by simp [isoF,h,h']
set_option maxHeartbeats 1000000 in
theorem eq_gl2 {p q p' q':List Int} (hp:p.length = 24) (hq:q.length = 24) (hp':p'.length = 24) (hq':q'.length = 24) (n n':Nat) (w:World) :
  (Op.equalIn 10000 62 (.agg (V (gl p q n)).toArray) (.agg (V (gl p' q' n')).toArray)).run sqp.prog w = .ok (decide (p = p'/\q = q'/\n = n')) w:=by
 have hf:(sqp.prog.fieldsOf 62).toList.map (fun f=>(f.name,f.type,f.offset)) = [("right",60,0),("up",60,24),("count",3,48)]:=by kernel_rfl
 rw [run_equalIn_struct w 9999 _ _ _ (by kernel_rfl) (by kernel_rfl)]
 generalize (sqp.prog.fieldsOf 62).toList = fs at hf
 have hl:fs.length = 3:=by have:=congrArg List.length hf;simpa using this
 match fs,hl,hf with
 | [f0,f1,f2],_,hf =>
  simp only [List.map_cons,List.map_nil,List.cons.injEq,Prod.mk.injEq,and_true] at hf
  obtain ⟨⟨a1,a2,a3⟩,⟨b1,b2,b3⟩,c1,c2,c3⟩:=hf
  have x1:∀ {r s:List Int} (n:Nat),r.length = 24->s.length = 24->(V (gl r s n)).toArray.extract 0 (0 + 24) = (V r).toArray:=fun _ hr hs=>V_ext (by simp [gl,hr])
  have x2:∀ {r s:List Int} (n:Nat),r.length = 24->s.length = 24->(V (gl r s n)).toArray.extract 24 (24 + 24) = (V s).toArray:=fun _ hr hs=>V_ext (by simp [gl,hr,hs])
  have x3:∀ {r s:List Int} (n:Nat),r.length = 24->s.length = 24->(V (gl r s n)).toArray[48]? = some (.int .i64 n):=fun _ hr hs=>by
   simp only [gl,V,List.map_append,List.getElem?_toArray]
   rw [List.getElem?_append_right (by simp;omega)]
   simp [hr,hs]
  have e3:(Op.equalIn 9999 3 (.int .i64 n) (.int .i64 n')).run sqp.prog w = .ok ((n:Int) == (n':Int)) w:=run_equalIn_int w 9998 _ .i64 .i64 _ _ sqp.underlying3
  have n1:(("right":String) ≠ "_") = True:=by simp
  have n2:(("up":String) ≠ "_") = True:=by simp
  have n3:(("count":String) ≠ "_") = True:=by simp
  have e1':(Op.equalIn 9999 60 (.agg (V p).toArray) (.agg (V p').toArray)).run sqp.prog w = .ok (decide (p = p')) w:=eq_perm hp hp' 9997 w
  have e2':(Op.equalIn 9999 60 (.agg (V q).toArray) (.agg (V q').toArray)).run sqp.prog w = .ok (decide (q = q')) w:=eq_perm hq hq' 9997 w
  simp only [Op.eqFields,n1,n2,n3,if_true,a1,a2,a3,b1,b2,b3,c1,c2,c3,Sem.run_bind,part_perm,x1 n hp hq,x1 n' hp' hq',Result.andThen_ok,e1']
  by_cases h1:p = p'
  ·simp only [decide_eq_true h1,Bool.not_true,Bool.false_eq_true,if_false,Sem.run_bind,part_perm,x2 n hp hq,x2 n' hp' hq',Result.andThen_ok,e2']
   by_cases h2:q = q'
   ·simp only [decide_eq_true h2,Bool.not_true,Bool.false_eq_true,if_false,Sem.run_bind,part_int (x3 n hp hq),part_int (x3 n' hp' hq'),Result.andThen_ok,e3]
    by_cases h3:n = n'
    ·have:((n:Int) == (n':Int)) = true:=by simp [h3]
     simp only [this,Bool.not_true,Bool.false_eq_true,if_false,Sem.run_pure]
     rw [decide_eq_true (show p = p'/\q = q'/\n = n' from ⟨h1,h2,h3⟩)]
    ·have:((n:Int) == (n':Int)) = false:=by simp;omega
     simp only [this,Bool.not_false,if_true,Sem.run_pure]
     rw [decide_eq_false (fun h=>h3 h.2.2)]
   ·simp only [decide_eq_false h2,Bool.not_false,if_true,Sem.run_pure]
    rw [decide_eq_false (fun h=>h2 h.2.1)]
  ·simp only [decide_eq_false h1,Bool.not_false,if_true,Sem.run_pure]
   rw [decide_eq_false (fun h=>h1 h.1)]
theorem eq_cn {r u r' u':List Int} {n n':Nat} (h:0 < n) (h':0 < n') (l:n<=24) (l':n'<=24) (w:World) :
  (Op.equalIn 10000 62 (.agg (V (cn r u n)).toArray) (.agg (V (cn r' u' n')).toArray)).run sqp.prog w = .ok (sameF (can r u n).1 (can r u n).2 (can r' u' n').1 (can r' u' n').2) w:=by
 unfold cn
 rw [eq_gl2 (ext_len _) (ext_len _) (ext_len _) (ext_len _)]
 obtain ⟨a1,a2⟩:=can_len r u h
 obtain ⟨b1,b2⟩:=can_len r' u' h'
 congr 1
 unfold sameF eqi
 rw [<-Bool.decide_and,decide_eq_decide]
 constructor
 ·rintro ⟨q1,q2,rfl⟩
  exact ⟨ext_inj (by rw [a1,b1]) (by omega) q1,ext_inj (by rw [a2,b2]) (by omega) q2⟩
 ·rintro ⟨q1,q2⟩
  exact ⟨by rw [q1],by rw [q2],by rw [<-a1,<-b1,q1]⟩
set_option maxHeartbeats 2000000 in
theorem iso_impl (x:Value) (r u:List Int) (y:Value) (r' u':List Int) (h1 h2:Nat) (w:World) (hx:Srd w h1 x r u) (hy:Srd w h2 y r' u') (hn:r.length<=1048576) (hm:u.length<=1048576) (hn':r'.length<=1048576) (hm':u'.length<=1048576) :
  Calls sqp.prog 16 #[x,y] w fun e w'=>e = .returned (.bool (isoF r u r' u'))/\Below w.heap.size w w':=by
 have HX:=Lib.hid hx;have HY:=Lib.hid hy
 obtain ⟨P,n,c,Q,m,d,rfl,q1,q2,e1,e2,ht,HR⟩:=hx.open
 obtain ⟨P',n',c',Q',m',d',rfl,q1',q2',e1',e2',ht',HR'⟩:=hy.open
 have L1:=Lib.hid q1;have L1':=Lib.hid q1'
 clear hx hy HR HR'
 have B0:Hid (∀ a b,Below w.heap.size w ((w.alloc a).alloc b)):=Lib.hid (fun a b=>((Below.refl _ _).alloc (Nat.le_refl _) _).alloc (by simp) _)
 go_enter sqp.func16,sqp.ntmps16
 go_wp2_with fail
 refine (gluingOf_any _ r u h1 _ (HX.out.keep ((B0.out _ _).mono ht) (Nat.le_refl _)) hn hm).mono ?_
 rintro e w1 ⟨rfl,b1⟩
 have A3:=Lib.hid ((Arr.new (w.alloc (.cells #[.slice P n c,.slice Q m d] 25)) [.slice P' n' c',.slice Q' m' d'] 25 (g:=w.heap.size + 1) (by simp)).keep b1 (by simp <;> omega))
 have B1:Hid (Below w.heap.size w w1):=Lib.hid ((B0.out _ _).trans (b1.mono (by simp <;> omega)))
 have hs1:w.heap.size + 2<=w1.heap.size:=by have:=b1.size;simpa using this
 clear b1
 go_wp2_with (first | (refine wpList_store_row rfl 62 _ _ rfl w1.heap.size (V (glv r u)).toArray rfl rfl 62 (V zero49).toArray (Arr.new w1 (V zero49) _ rfl) (size49 (glv_len _ _)) (by simp [V_len,glv_len,zero49]) (one_V _) ?_;generalize hwq:(w1.alloc (.cells #[.int .i64 0,.int .i64 0,.int .i64 0,.int .i64 0,.int .i64 0,.int .i64 0,.int .i64 0,.int .i64 0,.int .i64 0,.int .i64 0,.int .i64 0,.int .i64 0,.int .i64 0,.int .i64 0,.int .i64 0,.int .i64 0,.int .i64 0,.int .i64 0,.int .i64 0,.int .i64 0,.int .i64 0,.int .i64 0,.int .i64 0,.int .i64 0,.int .i64 0,.int .i64 0,.int .i64 0,.int .i64 0,.int .i64 0,.int .i64 0,.int .i64 0,.int .i64 0,.int .i64 0,.int .i64 0,.int .i64 0,.int .i64 0,.int .i64 0,.int .i64 0,.int .i64 0,.int .i64 0,.int .i64 0,.int .i64 0,.int .i64 0,.int .i64 0,.int .i64 0,.int .i64 0,.int .i64 0,.int .i64 0,.int .i64 0] 62)).setRow w1.heap.size (V (glv r u)).toArray = w2;have A5:Hid (Arr w2 w1.heap.size (V (glv r u)) 62):=Lib.hid (by rw [<-hwq];exact (Arr.new w1 (V zero49) _ rfl).row);have b1:Below w1.heap.size w1 w2:=(by rw [<-hwq];exact arr.below_setRow ((Below.refl _ _).alloc (Nat.le_refl _) _) (Nat.le_refl _) _);have tw2:=b1.size;replace A3:=Lib.hid (A3.out.keep b1 A3.out.lt);replace B1:=Lib.hid (B1.out.trans (b1.mono B1.out.size));clear hwq b1;have c0:=A3.out.cell (k:=0) rfl;have c1:=A3.out.cell (k:=1) rfl) | fail)
 refine (gluingOf_any _ r' u' h2 _ (HY.out.keep (B1.out.mono ht') (Nat.le_refl _)) hn' hm').mono ?_
 rintro e w3 ⟨rfl,b1⟩
 have hs3:=b1.size
 replace A5:=Lib.hid (A5.out.keep b1 A5.out.lt)
 replace B1:=Lib.hid (B1.out.trans (b1.mono B1.out.size))
 clear b1 A3 c0 c1
 cases hq:transB r u
 ·have HF:=Lib.hid (iso_no1 (r':=r') (u':=u') hq)
  go_wp2_with (first | (refine wpList_store_row rfl 62 _ _ rfl w3.heap.size (V (glv r' u')).toArray rfl rfl 62 (V zero49).toArray (Arr.new w3 (V zero49) _ rfl) (size49 (glv_len _ _)) (by simp [V_len,glv_len,zero49]) (one_V _) ?_;generalize hwq:(w3.alloc (.cells #[.int .i64 0,.int .i64 0,.int .i64 0,.int .i64 0,.int .i64 0,.int .i64 0,.int .i64 0,.int .i64 0,.int .i64 0,.int .i64 0,.int .i64 0,.int .i64 0,.int .i64 0,.int .i64 0,.int .i64 0,.int .i64 0,.int .i64 0,.int .i64 0,.int .i64 0,.int .i64 0,.int .i64 0,.int .i64 0,.int .i64 0,.int .i64 0,.int .i64 0,.int .i64 0,.int .i64 0,.int .i64 0,.int .i64 0,.int .i64 0,.int .i64 0,.int .i64 0,.int .i64 0,.int .i64 0,.int .i64 0,.int .i64 0,.int .i64 0,.int .i64 0,.int .i64 0,.int .i64 0,.int .i64 0,.int .i64 0,.int .i64 0,.int .i64 0,.int .i64 0,.int .i64 0,.int .i64 0,.int .i64 0,.int .i64 0] 62)).setRow w3.heap.size (V (glv r' u')).toArray = w4;have A7:Hid (Arr w4 w3.heap.size (V (glv r' u')) 62):=Lib.hid (by rw [<-hwq];exact (Arr.new w3 (V zero49) _ rfl).row);have b1:Below w3.heap.size w3 w4:=(by rw [<-hwq];exact arr.below_setRow ((Below.refl _ _).alloc (Nat.le_refl _) _) (Nat.le_refl _) _);have tw4:=b1.size;replace A5:=Lib.hid (A5.out.keep b1 A5.out.lt);replace B1:=Lib.hid (B1.out.trans (b1.mono B1.out.size));clear hwq b1) | fail)
  go_ret
  exact ⟨ret_bool HF.out.symm,B1.out⟩
 ·cases hq':transB r' u'
  ·have HF:=Lib.hid (iso_no2 (r:=r) (u:=u) hq')
   go_wp2_with (first | (refine wpList_store_row rfl 62 _ _ rfl w3.heap.size (V (glv r' u')).toArray rfl rfl 62 (V zero49).toArray (Arr.new w3 (V zero49) _ rfl) (size49 (glv_len _ _)) (by simp [V_len,glv_len,zero49]) (one_V _) ?_;generalize hwq:(w3.alloc (.cells #[.int .i64 0,.int .i64 0,.int .i64 0,.int .i64 0,.int .i64 0,.int .i64 0,.int .i64 0,.int .i64 0,.int .i64 0,.int .i64 0,.int .i64 0,.int .i64 0,.int .i64 0,.int .i64 0,.int .i64 0,.int .i64 0,.int .i64 0,.int .i64 0,.int .i64 0,.int .i64 0,.int .i64 0,.int .i64 0,.int .i64 0,.int .i64 0,.int .i64 0,.int .i64 0,.int .i64 0,.int .i64 0,.int .i64 0,.int .i64 0,.int .i64 0,.int .i64 0,.int .i64 0,.int .i64 0,.int .i64 0,.int .i64 0,.int .i64 0,.int .i64 0,.int .i64 0,.int .i64 0,.int .i64 0,.int .i64 0,.int .i64 0,.int .i64 0,.int .i64 0,.int .i64 0,.int .i64 0,.int .i64 0,.int .i64 0] 62)).setRow w3.heap.size (V (glv r' u')).toArray = w4;have A7:Hid (Arr w4 w3.heap.size (V (glv r' u')) 62):=Lib.hid (by rw [<-hwq];exact (Arr.new w3 (V zero49) _ rfl).row);have b1:Below w3.heap.size w3 w4:=(by rw [<-hwq];exact arr.below_setRow ((Below.refl _ _).alloc (Nat.le_refl _) _) (Nat.le_refl _) _);have tw4:=b1.size;replace A5:=Lib.hid (A5.out.keep b1 A5.out.lt);replace B1:=Lib.hid (B1.out.trans (b1.mono B1.out.size));clear hwq b1) | fail)
   go_ret
   exact ⟨ret_bool HF.out.symm,B1.out⟩
  ·have HF:=Lib.hid (iso_yes hq hq')
   have HS:Hid (Sf n r u):=Lib.hid (by have:=transB_iff.1 hq;rwa [L1.out] at this)
   have HS':Hid (Sf n' r' u'):=Lib.hid (by have:=transB_iff.1 hq';rwa [L1'.out] at this)
   have HG:Hid (glv r u = gl (ext r) (ext u) n):=Lib.hid (by rw [glv_yes hq,L1.out])
   have HG':Hid (glv r' u' = gl (ext r') (ext u') n'):=Lib.hid (by rw [glv_yes hq',L1'.out])
   have hn24:n<=24:=by have:=HS.out.r.len;rwa [L1.out] at this
   have hn24':n'<=24:=by have:=HS'.out.r.len;rwa [L1'.out] at this
   rw [L1.out,L1'.out] at HF
   rw [HG.out] at A5
   clear hq hq'
   go_wp2_with (first | (refine wpList_store_row rfl 62 _ _ rfl w3.heap.size (V (glv r' u')).toArray rfl rfl 62 (V zero49).toArray (Arr.new w3 (V zero49) _ rfl) (size49 (glv_len _ _)) (by simp [V_len,glv_len,zero49]) (one_V _) ?_;generalize hwq:(w3.alloc (.cells #[.int .i64 0,.int .i64 0,.int .i64 0,.int .i64 0,.int .i64 0,.int .i64 0,.int .i64 0,.int .i64 0,.int .i64 0,.int .i64 0,.int .i64 0,.int .i64 0,.int .i64 0,.int .i64 0,.int .i64 0,.int .i64 0,.int .i64 0,.int .i64 0,.int .i64 0,.int .i64 0,.int .i64 0,.int .i64 0,.int .i64 0,.int .i64 0,.int .i64 0,.int .i64 0,.int .i64 0,.int .i64 0,.int .i64 0,.int .i64 0,.int .i64 0,.int .i64 0,.int .i64 0,.int .i64 0,.int .i64 0,.int .i64 0,.int .i64 0,.int .i64 0,.int .i64 0,.int .i64 0,.int .i64 0,.int .i64 0,.int .i64 0,.int .i64 0,.int .i64 0,.int .i64 0,.int .i64 0,.int .i64 0,.int .i64 0] 62)).setRow w3.heap.size (V (glv r' u')).toArray = w4;have A7:Hid (Arr w4 w3.heap.size (V (glv r' u')) 62):=Lib.hid (by rw [<-hwq];exact (Arr.new w3 (V zero49) _ rfl).row);have b1:Below w3.heap.size w3 w4:=(by rw [<-hwq];exact arr.below_setRow ((Below.refl _ _).alloc (Nat.le_refl _) _) (Nat.le_refl _) _);have tw4:=b1.size;replace A5:=Lib.hid (A5.out.keep b1 A5.out.lt);replace B1:=Lib.hid (B1.out.trans (b1.mono B1.out.size));clear hwq b1;rw [HG'.out] at A7) | (refine wpList_load_row rfl 62 (.tmp 5) rfl w1.heap.size rfl 62 (V (gl (ext r) (ext u) n)).toArray (0,0) _ A5.out sqp.underlying62 rfl (size49 (gl_len (ext_len _) (ext_len _) _)) ?_) | fail)
   refine (canon_any r u n _ HS.out).mono ?_
   rintro e w5 ⟨B,D,mm,rfl,_,_,b1⟩
   have hs5:=b1.size
   replace A7:=Lib.hid (A7.out.keep b1 A7.out.lt)
   replace B1:=Lib.hid (B1.out.trans (b1.mono B1.out.size))
   clear b1 A5
   go_wp2_with (first | (refine wpList_store_row rfl 62 _ _ rfl w5.heap.size (V (cn r u n)).toArray rfl rfl 62 (V zero49).toArray (Arr.new w5 (V zero49) _ rfl) (size49 (cn_len _ _ _)) (by simp [V_len,cn_len,zero49]) (one_V _) ?_;generalize hwq:(w5.alloc (.cells #[.int .i64 0,.int .i64 0,.int .i64 0,.int .i64 0,.int .i64 0,.int .i64 0,.int .i64 0,.int .i64 0,.int .i64 0,.int .i64 0,.int .i64 0,.int .i64 0,.int .i64 0,.int .i64 0,.int .i64 0,.int .i64 0,.int .i64 0,.int .i64 0,.int .i64 0,.int .i64 0,.int .i64 0,.int .i64 0,.int .i64 0,.int .i64 0,.int .i64 0,.int .i64 0,.int .i64 0,.int .i64 0,.int .i64 0,.int .i64 0,.int .i64 0,.int .i64 0,.int .i64 0,.int .i64 0,.int .i64 0,.int .i64 0,.int .i64 0,.int .i64 0,.int .i64 0,.int .i64 0,.int .i64 0,.int .i64 0,.int .i64 0,.int .i64 0,.int .i64 0,.int .i64 0,.int .i64 0,.int .i64 0,.int .i64 0] 62)).setRow w5.heap.size (V (cn r u n)).toArray = w6;have A9:Hid (Arr w6 w5.heap.size (V (cn r u n)) 62):=Lib.hid (by rw [<-hwq];exact (Arr.new w5 (V zero49) _ rfl).row);have b1:Below w5.heap.size w5 w6:=(by rw [<-hwq];exact arr.below_setRow ((Below.refl _ _).alloc (Nat.le_refl _) _) (Nat.le_refl _) _);have tw6:=b1.size;replace A7:=Lib.hid (A7.out.keep b1 A7.out.lt);replace B1:=Lib.hid (B1.out.trans (b1.mono B1.out.size));clear hwq b1) | (refine wpList_load_row rfl 62 (.tmp 7) rfl w3.heap.size rfl 62 (V (gl (ext r') (ext u') n')).toArray (0,0) _ A7.out sqp.underlying62 rfl (size49 (gl_len (ext_len _) (ext_len _) _)) ?_) | fail)
   refine (canon_any r' u' n' _ HS'.out).mono ?_
   rintro e w7 ⟨B',D',mm',rfl,_,_,b1⟩
   have hs7:=b1.size
   replace A9:=Lib.hid (A9.out.keep b1 A9.out.lt)
   replace B1:=Lib.hid (B1.out.trans (b1.mono B1.out.size))
   clear b1 A7
   have EQ:Hid (∀ w,(Op.equalIn 10000 62 (.agg (V (cn r u n)).toArray) (.agg (V (cn r' u' n')).toArray)).run sqp.prog w = .ok (isoF r u r' u') w):=Lib.hid (fun w=>by rw [HF.out];exact eq_cn HS.out.pos HS'.out.pos hn24 hn24' w)
   go_wp2_with (first | (refine wpList_store_row rfl 62 _ _ rfl w7.heap.size (V (cn r' u' n')).toArray rfl rfl 62 (V zero49).toArray (Arr.new w7 (V zero49) _ rfl) (size49 (cn_len _ _ _)) (by simp [V_len,cn_len,zero49]) (one_V _) ?_;generalize hwq:(w7.alloc (.cells #[.int .i64 0,.int .i64 0,.int .i64 0,.int .i64 0,.int .i64 0,.int .i64 0,.int .i64 0,.int .i64 0,.int .i64 0,.int .i64 0,.int .i64 0,.int .i64 0,.int .i64 0,.int .i64 0,.int .i64 0,.int .i64 0,.int .i64 0,.int .i64 0,.int .i64 0,.int .i64 0,.int .i64 0,.int .i64 0,.int .i64 0,.int .i64 0,.int .i64 0,.int .i64 0,.int .i64 0,.int .i64 0,.int .i64 0,.int .i64 0,.int .i64 0,.int .i64 0,.int .i64 0,.int .i64 0,.int .i64 0,.int .i64 0,.int .i64 0,.int .i64 0,.int .i64 0,.int .i64 0,.int .i64 0,.int .i64 0,.int .i64 0,.int .i64 0,.int .i64 0,.int .i64 0,.int .i64 0,.int .i64 0,.int .i64 0] 62)).setRow w7.heap.size (V (cn r' u' n')).toArray = w8;have A11:Hid (Arr w8 w7.heap.size (V (cn r' u' n')) 62):=Lib.hid (by rw [<-hwq];exact (Arr.new w7 (V zero49) _ rfl).row);have b1:Below w7.heap.size w7 w8:=(by rw [<-hwq];exact arr.below_setRow ((Below.refl _ _).alloc (Nat.le_refl _) _) (Nat.le_refl _) _);have tw8:=b1.size;replace A9:=Lib.hid (A9.out.keep b1 A9.out.lt);replace B1:=Lib.hid (B1.out.trans (b1.mono B1.out.size));clear hwq b1) | (refine wpList_load_row rfl 62 (.tmp 9) rfl w5.heap.size rfl 62 (V (cn r u n)).toArray (0,0) _ A9.out sqp.underlying62 rfl (size49 (cn_len _ _ _)) ?_) | (refine wpList_load_row rfl 62 (.tmp 11) rfl w7.heap.size rfl 62 (V (cn r' u' n')).toArray (0,0) _ A11.out sqp.underlying62 rfl (size49 (cn_len _ _ _)) ?_) | (refine wpList_eql_gl rfl _ _ _ rfl _ _ rfl rfl _ (EQ.out _) ?_) | fail)
   go_ret
   exact ⟨rfl,B1.out⟩
end Go.Proofs.Ytgcnemkhppkkcaa.gl

namespace Go.Proofs.Ytgcnemkhppkkcaa.ch
open Go.Conc Go.RowKit mem
set_option linter.unusedVariables false
set_option maxRecDepth 100000
def Rw (P:Program) (ops:Array Oper) (l:List Nat) (Q:Exit->Act->World->Prop) (a:Act) (w:World):Prop :=
 ∀ (b:Frame) (k:List Item) (cs:List Frame),∃ e a' w',Q e a' w'/\Arrives P (lone (b.at a (.inRegion ops l :: k)) cs w) b k cs e a' w'
section
variable {P:Program} {ops:Array Oper} {Q:Exit->Act->World->Prop} {a:Act} {w:World} {i:Nat} {rest:List Nat} {o:Oper}
def isComm:Op->Bool
 | .send ..=>true
 | .recv ..=>true
 | .call { callee:=.builtin .close,.. }=>true
 | _=>false
theorem region {id:Nat} (hc:ops.toList.any (fun o=>isComm o.op) = true) (h:Rw P ops (List.range ops.size) Q a w):(Code.region id ops false).wp P Q a w :=
 fun b k cs=>let ⟨e,a',w',q,r⟩:=h b k cs;⟨e,a',w',q,.of_steps (.one step_region) r⟩
theorem Rw.nil (h:Q .normal a w):Rw P ops [] Q a w:=fun b k cs=>⟨.normal,a,w,h,.one step_region_end⟩
theorem Rw.op (ho:ops[i]? = some o) (hw:Region.wanted o (yielded ops a.tmps) = true)
  (h:∀ K:Act->World->Prop,(∀ a w,Rw P ops rest Q a w->K a w)->o.wp P a w K (fun _ _ _=>False)):Rw P ops (i :: rest) Q a w:=by
 intro b k cs
 have h:=h _ (fun _ _ h=>h)
 simp only [Oper.wp,Oper.upon] at h
 have hg:=stepG_op (P:=P) (b:=b) (k:=k) (cs:=cs) (w:=w) (rest:=rest) ho hw
 have hfin:∀ v,(b.at a (.inRegion ops (i :: rest) :: k)).finish v = b.at (a.put o.dst v) (.inRegion ops rest :: k):=by
  intro v;rw [Frame.finish_at,ho];rfl
 split at h
 ·rename_i v w' hr
  obtain ⟨e,a',w'',q,r⟩:=h b k cs
  refine ⟨e,a',w'',q,.of_steps (.one (step_lone_go ?_)) r⟩
  rw [hg,<-hfin];simp [stepG.apply,hr]
 ·rename_i w' hr
  obtain ⟨e,a',w'',q,r⟩:=h b k cs
  refine ⟨e,a',w'',q,.of_steps (.one (step_lone_go ?_)) r⟩
  rw [hg,<-hfin];simp [stepG.apply,hr]
 ·rename_i d w' hr
  obtain ⟨e,a',w'',q,r⟩:=h b k cs
  refine ⟨e,a',w'',q,.of_steps (.one (step_lone_go ?_)) r⟩
  have:=Frame.finish_at b { a with defers:=d :: a.defers } ops i rest k undef
  rw [ho] at this
  rw [hg];simp only [stepG.apply,Sem.runT_eq,hr,GStep.bare_after]
  exact congrArg (fun fr=>GStep.go { frame:=fr,callers:=cs,status:=.running,dying:=none } w') this
 ·rename_i f args w' hr
  obtain ⟨e,w'',fr,hR,hs,_,hl⟩:=h (b.at a (.inRegion ops (i :: rest) :: k) :: cs)
  cases e with
  | returned v =>
   obtain ⟨e,a',w₃,q,r⟩:=hR b k cs
   refine ⟨e,a',w₃,q,.of_steps (.head (step_lone_go (by rw [hg];simp [stepG.apply,hr,Frame.at])) (hs.trans (.one ?_))) r⟩
   rw [<-hfin];exact step_leave_returned hl
  | panicked chain=>exact hR.elim
  | outgrown=>obtain ⟨_,_,q⟩:=hR;exact q.elim
 ·rename_i row args w' hr
  obtain ⟨v,w'',hR,hs⟩:=h (b.at a (.inRegion ops (i :: rest) :: k)) cs
  obtain ⟨e,a',w₃,q,r⟩:=hR b k cs
  have he:step P (lone (b.at a (.inRegion ops (i :: rest) :: k)) cs w) = .next (lone (Frame.ofRow P row args .normal) (b.at a (.inRegion ops (i :: rest) :: k) :: cs) w') :=
   step_lone_go (by rw [hg];simp [stepG.apply,hr,Frame.at])
  refine ⟨e,a',w₃,q,.of_steps (.head he ?_) r⟩
  rw [<-hfin];exact hs
 ·exact h.elim
 ·exact h.elim
theorem comm {cases:Array CommCase} {blocking:Bool} {shape:CommShape} {w':World} (ho:ops[i]? = some o) (hw:Region.wanted o (yielded ops a.tmps) = true)
  (hr:(execOp a.eval o).run P w = .ok (.comm cases blocking shape) w') (b:Frame) (k:List Item) (cs:List Frame) :
  ∃ es,stepG P true (G (b.at a (.inRegion ops (i :: rest) :: k)) cs) w = .comm (G (b.at a (.inRegion ops (i :: rest) :: k)) cs) cases blocking shape w' es:=by
 rw [stepG_oper ho hw]
 simp only [stepG.apply,Sem.runT_eq,hr]
 split <;> exact ⟨_,rfl⟩
variable {c cap s r:Nat} {buf:Array Value} {z z' v:Value} {tm closed:Bool} {w₁:World}
theorem Rw.send (ho:ops[i]? = some o) (hw:Region.wanted o (yielded ops a.tmps) = true) (hr:(execOp a.eval o).run P w = .ok (.comm #[scase c v z'] true .send) w₁)
  (hc:w₁.heap[c]? = some (.chan cap buf false s r tm)) (hroom:buf.size < cap) (h:Rw P ops rest Q (a.put o.dst undef) (w₁.setChan c cap (buf.push v) false (s + 1) r tm)) :
  Rw P ops (i :: rest) Q a w:=by
 intro b k cs
 obtain ⟨es,hg⟩:=comm (rest:=rest) ho hw hr b k cs
 obtain ⟨e,a',w',q,h⟩:=h b k cs
 refine ⟨e,a',w',q,.of_steps (.one ?_) h⟩
 have hfin:(b.at a (.inRegion ops (i :: rest) :: k)).finish undef = b.at (a.put o.dst undef) (.inRegion ops rest :: k):=by rw [Frame.finish_at,ho];rfl
 have:=step_lone_send_room hg hc hroom
 rw [hfin] at this
 exact this
theorem Rw.recv (ok:Bool) (ho:ops[i]? = some o) (hw:Region.wanted o (yielded ops a.tmps) = true) (hr:(execOp a.eval o).run P w = .ok (.comm #[rcase c z] true (.recv ok)) w₁)
  (hc:w₁.heap[c]? = some (.chan cap buf closed s r tm)) (hsome:0 < buf.size) (h:Rw P ops rest Q (a.put o.dst (got ok (buf.getD 0 undef) true)) (w₁.setChan c cap (buf.extract 1 buf.size) closed s (r + 1) tm)) :
  Rw P ops (i :: rest) Q a w:=by
 intro b k cs
 obtain ⟨es,hg⟩:=comm (rest:=rest) ho hw hr b k cs
 obtain ⟨e,a',w',q,h⟩:=h b k cs
 refine ⟨e,a',w',q,.of_steps (.one ?_) h⟩
 have hfin:∀ v,(b.at a (.inRegion ops (i :: rest) :: k)).finish v = b.at (a.put o.dst v) (.inRegion ops rest :: k):=by intro v;rw [Frame.finish_at,ho];rfl
 have:=step_lone_recv_buf ok hg hc hsome
 rw [hfin] at this
 exact this
theorem Rw.shut (ok:Bool) (ho:ops[i]? = some o) (hw:Region.wanted o (yielded ops a.tmps) = true) (hr:(execOp a.eval o).run P w = .ok (.comm #[rcase c z] true (.recv ok)) w₁)
  (hc:w₁.heap[c]? = some (.chan cap #[] true s r tm)) (h:Rw P ops rest Q (a.put o.dst (got ok z false)) w₁) :
  Rw P ops (i :: rest) Q a w:=by
 intro b k cs
 obtain ⟨es,hg⟩:=comm (rest:=rest) ho hw hr b k cs
 obtain ⟨e,a',w',q,h⟩:=h b k cs
 refine ⟨e,a',w',q,.of_steps (.one ?_) h⟩
 have hfin:∀ v,(b.at a (.inRegion ops (i :: rest) :: k)).finish v = b.at (a.put o.dst v) (.inRegion ops rest :: k):=by intro v;rw [Frame.finish_at,ho];rfl
 have:=step_lone_recv_shut ok hg hc
 rw [hfin] at this
 exact this
end
theorem mk {P:Program} {t e:TypeId} {dir:ChanDir} (ht:P.underlying t = some (.chan dir e)) {B:Nat} (hB:(P.info? e).map (·.bytes) = some B) (n:Nat) (h63:(n:Int)<=9223372036854775807) (hb:(B:Int) * n<=281474976710544)
  (m:Int) (hm:m = n) (w:World):(Instr.makeChan t (.int .i64 m)).run P w = .ok (.chan (some w.heap.size)) (w.alloc (.chan n #[] false 0 0 false)):=by
 obtain ⟨i,hi,e⟩:=Option.map_eq_some_iff.1 hB
 rw [hm]
 exact run_makeChan ht hi .i64 n h63 (by rw [e];exact hb)
def Chn (w:World) (c cap:Nat) (vs:List Value) (closed:Bool):Prop:=∃ s r,w.heap[c]? = some (.chan cap vs.toArray closed s r false)
theorem Chn.lt {w:World} {c cap:Nat} {vs:List Value} {closed:Bool} (h:Chn w c cap vs closed):c < w.heap.size:=by
 obtain ⟨s,r,h⟩:=h;exact (Array.getElem?_eq_some_iff.1 h).1
theorem Chn.keep {w w':World} {c cap B:Nat} {vs:List Value} {closed:Bool} (h:Chn w c cap vs closed) (hb:Below B w w') (hB:c < B):Chn w' c cap vs closed:=by
 obtain ⟨s,r,h⟩:=h;exact ⟨s,r,(hb.block c hB).trans h⟩
theorem Chn.new (w:World) (cap:Nat):Chn (w.alloc (.chan cap #[] false 0 0 false)) w.heap.size cap [] false:=⟨0,0,heap_alloc_new _ _⟩
theorem out_setChan (w:World) (c cap:Nat) (buf:Array Value) (cl:Bool) (s r:Nat) (tm:Bool):Out c (c + 1) w (w.setChan c cap buf cl s r tm) :=
 ⟨rfl,rfl,rfl,by simp [World.setChan],fun k hk h=>by simp only [World.setChan];rw [Array.getElem?_setIfInBounds_ne (by omega)]⟩
section
variable {P:Program} {ops:Array Oper} {Q:Exit->Act->World->Prop} {a:Act} {w:World} {i:Nat} {rest:List Nat} {o:Oper} {c cap:Nat} {vs:List Value} {z z' v:Value} {closed:Bool} {w₁:World}
theorem Rw.sendL (ho:ops[i]? = some o) (hw:Region.wanted o (yielded ops a.tmps) = true) (hr:(execOp a.eval o).run P w = .ok (.comm #[scase c v z'] true .send) w₁)
  (hc:Chn w₁ c cap vs false) (hroom:vs.length < cap) (h:∀ w',Chn w' c cap (vs ++ [v]) false->Out c (c + 1) w₁ w'->Rw P ops rest Q (a.put o.dst undef) w'):Rw P ops (i :: rest) Q a w:=by
 have l:=hc.lt
 obtain ⟨s,r,hc⟩:=hc
 exact Rw.send ho hw hr hc (by simpa using hroom) (h _ ⟨s + 1,r,by rw [heap_setChan _ _ _ _ _ _ _ _ l];simp⟩ (out_setChan _ _ _ _ _ _ _ _))
theorem Rw.recvL (ok:Bool) (ho:ops[i]? = some o) (hw:Region.wanted o (yielded ops a.tmps) = true) (hr:(execOp a.eval o).run P w = .ok (.comm #[rcase c z] true (.recv ok)) w₁)
  (hc:Chn w₁ c cap (v :: vs) closed) (h:∀ w',Chn w' c cap vs closed->Out c (c + 1) w₁ w'->Rw P ops rest Q (a.put o.dst (got ok v true)) w'):Rw P ops (i :: rest) Q a w:=by
 have l:=hc.lt
 obtain ⟨s,r,hc⟩:=hc
 refine Rw.recv ok ho hw hr hc (by simp) ?_
 have e:(v :: vs).toArray.getD 0 undef = v:=by simp
 rw [e]
 exact h _ ⟨s,r + 1,by rw [heap_setChan _ _ _ _ _ _ _ _ l];simp⟩ (out_setChan _ _ _ _ _ _ _ _)
theorem Rw.shutL (ok:Bool) (ho:ops[i]? = some o) (hw:Region.wanted o (yielded ops a.tmps) = true) (hr:(execOp a.eval o).run P w = .ok (.comm #[rcase c z] true (.recv ok)) w₁)
  (hc:Chn w₁ c cap [] true) (h:Rw P ops rest Q (a.put o.dst (got ok z false)) w₁):Rw P ops (i :: rest) Q a w:=by
 obtain ⟨s,r,hc⟩:=hc
 exact Rw.shut ok ho hw hr hc h
theorem Rw.closeL {ats:Array TypeId} {x:Tmp} (ho:ops[i]? = some o) (hg:o.guard = none) (hop:o.op = .call { callee:=.builtin .close,args:=#[.tmp x],argTypes:=ats }) (hx:a.eval (.tmp x) = .chan (some c))
  (hc:Chn w c cap vs false) (h:∀ w',Chn w' c cap vs true->Out c (c + 1) w w'->Rw P ops rest Q (a.put o.dst (.tuple #[])) w'):Rw P ops (i :: rest) Q a w:=by
 have l:=hc.lt
 obtain ⟨s,r,hc⟩:=hc
 have hcl:=fun ats ty=>run_close_open (P:=P) (w:=w) ats ty hc
 refine Rw.op ho (by simp [Region.wanted,hg]) (fun K hK=>?_)
 have h2:=hK _ _ (h (w.setChan c cap vs.toArray true s r false) ⟨s,r,heap_setChan _ _ _ _ _ _ _ _ l⟩ (out_setChan _ _ _ _ _ _ _ _))
 simp [go_sem] at hx
 simp only [Oper.wp,execOp,hop]
 simp [go_sem,hx,hcl]
 exact h2
end
attribute [irreducible] Rw
structure Stop (p:Prop):Prop where
 out:p
theorem stop {P:Program} {id:Nat} {ops:Array Oper} {Q:Exit->Act->World->Prop} {a:Act} {w:World} (hc:ops.toList.any (fun o=>isComm o.op) = true) (h:Stop (Rw P ops (List.range ops.size) Q a w)):(Code.region id ops false).wp P Q a w:=region hc h.out
theorem Rw.plain {P:Program} {ops:Array Oper} {Q:Exit->Act->World->Prop} {a:Act} {w w':World} {i:Nat} {rest:List Nat} {o:Oper} {v:Value} (ho:ops[i]? = some o) (hw:Region.wanted o (yielded ops a.tmps) = true) (hr:(execOp a.eval o).run P w = .ok (.value v) w')
  (h:Rw P ops rest Q (a.put o.dst v) w'):Rw P ops (i :: rest) Q a w:=Rw.op ho hw fun K hK=>by simp only [Oper.wp,Oper.upon,hr];exact hK _ _ h
end Go.Proofs.Ytgcnemkhppkkcaa.ch

namespace Go.Proofs.Ytgcnemkhppkkcaa.orb
open Go.ChangeShapes Go.WideShapes Go.ChangeAt Go.RowKit
open mem ints arr pm sf gl
set_option linter.unusedVariables false
set_option maxRecDepth 100000
def fdL (s:Sur) (n p l:Nat):List Int:=gS s n ++ [(p:Int),(l:Int)]
theorem fdL_len (s:Sur) (n p l:Nat):(fdL s n p l).length = 51:=by simp [fdL,gS_len]
set_option maxHeartbeats 1000000 in
theorem eq_gl3 {p q:List Int} (hp:p.length = 24) (hq:q.length = 24) (n:Nat) (w:World) :
  (Op.equalIn 9999 62 (.agg (V (gl p q n)).toArray) (.agg (V (gl p q n)).toArray)).run sqp.prog w = .ok true w:=by
 have hf:(sqp.prog.fieldsOf 62).toList.map (fun f=>(f.name,f.type,f.offset)) = [("right",60,0),("up",60,24),("count",3,48)]:=by kernel_rfl
 rw [run_equalIn_struct w 9998 _ _ _ (by kernel_rfl) (by kernel_rfl)]
 generalize (sqp.prog.fieldsOf 62).toList = fs at hf
 have hl:fs.length = 3:=by have:=congrArg List.length hf;simpa using this
 match fs,hl,hf with
 | [f0,f1,f2],_,hf =>
  simp only [List.map_cons,List.map_nil,List.cons.injEq,Prod.mk.injEq,and_true] at hf
  obtain ⟨⟨a1,a2,a3⟩,⟨b1,b2,b3⟩,c1,c2,c3⟩:=hf
  have x1:(V (gl p q n)).toArray.extract 0 (0 + 24) = (V p).toArray:=V_ext (by simp [gl,hp])
  have x2:(V (gl p q n)).toArray.extract 24 (24 + 24) = (V q).toArray:=V_ext (by simp [gl,hp,hq])
  have x3:(V (gl p q n)).toArray[48]? = some (.int .i64 n):=by
   simp only [gl,V,List.map_append,List.getElem?_toArray]
   rw [List.getElem?_append_right (by simp;omega)]
   simp [hp,hq]
  have e3:(Op.equalIn 9998 3 (.int .i64 n) (.int .i64 n)).run sqp.prog w = .ok ((n:Int) == (n:Int)) w:=run_equalIn_int w 9997 _ .i64 .i64 _ _ sqp.underlying3
  have n1:(("right":String) ≠ "_") = True:=by simp
  have n2:(("up":String) ≠ "_") = True:=by simp
  have n3:(("count":String) ≠ "_") = True:=by simp
  have e1':(Op.equalIn 9998 60 (.agg (V p).toArray) (.agg (V p).toArray)).run sqp.prog w = .ok (decide (p = p)) w:=eq_perm hp hp 9996 w
  have e2':(Op.equalIn 9998 60 (.agg (V q).toArray) (.agg (V q).toArray)).run sqp.prog w = .ok (decide (q = q)) w:=eq_perm hq hq 9996 w
  simp only [Op.eqFields,n1,n2,n3,if_true,a1,a2,a3,b1,b2,b3,c1,c2,c3,Sem.run_bind,part_perm,x1,x2,Result.andThen_ok,e1',e2',part_int x3,e3,decide_true,Bool.not_true,Bool.false_eq_true,if_false,beq_self_eq_true,Sem.run_pure]
theorem part_gl (xs:Array Value) (off:Nat) (w:World):(part 62 xs off).run sqp.prog w = .ok (.agg (xs.extract off (off + 49))) w:=by
 unfold part
 simp [Sem.run_bind]
theorem part_let {xs:Array Value} {off:Nat} {v:Value} (h:xs[off]? = some v) (w:World):(part 63 xs off).run sqp.prog w = .ok v w:=by
 unfold part
 simp [Sem.run_bind,h]
set_option maxHeartbeats 1000000 in
theorem eq_fd (s:Sur) (n p l:Nat) (w:World):(Op.equalIn 10000 65 (.agg (V (fdL s n p l)).toArray) (.agg (V (fdL s n p l)).toArray)).run sqp.prog w = .ok true w:=by
 have hf:(sqp.prog.fieldsOf 65).toList.map (fun f=>(f.name,f.type,f.offset)) = [("form",62,0),("from",3,49),("by",63,50)]:=by kernel_rfl
 rw [run_equalIn_struct w 9999 _ _ _ (by kernel_rfl) (by kernel_rfl)]
 generalize (sqp.prog.fieldsOf 65).toList = fs at hf
 have hl:fs.length = 3:=by have:=congrArg List.length hf;simpa using this
 match fs,hl,hf with
 | [f0,f1,f2],_,hf =>
  simp only [List.map_cons,List.map_nil,List.cons.injEq,Prod.mk.injEq,and_true] at hf
  obtain ⟨⟨a1,a2,a3⟩,⟨b1,b2,b3⟩,c1,c2,c3⟩:=hf
  have G:=gS_len s n
  have x1:(V (fdL s n p l)).toArray.extract 0 (0 + 49) = (V (gS s n)).toArray:=V_ext (by simp [fdL,G])
  have x2:(V (fdL s n p l)).toArray[49]? = some (.int .i64 p):=by
   simp only [fdL,V,List.map_append,List.getElem?_toArray]
   rw [List.getElem?_append_right (by simp;omega)]
   simp [G]
  have x3:(V (fdL s n p l)).toArray[50]? = some (.int .i64 l):=by
   simp only [fdL,V,List.map_append,List.getElem?_toArray]
   rw [List.getElem?_append_right (by simp;omega)]
   simp [G]
  have e1:(Op.equalIn 9999 62 (.agg (V (gS s n)).toArray) (.agg (V (gS s n)).toArray)).run sqp.prog w = .ok true w:=eq_gl3 (ext_len _) (ext_len _) n w
  have e2:(Op.equalIn 9999 3 (.int .i64 p) (.int .i64 p)).run sqp.prog w = .ok ((p:Int) == (p:Int)) w:=run_equalIn_int w 9998 _ .i64 .i64 _ _ sqp.underlying3
  have e3:(Op.equalIn 9999 63 (.int .i64 l) (.int .i64 l)).run sqp.prog w = .ok ((l:Int) == (l:Int)) w:=run_equalIn_int w 9998 _ .i64 .i64 _ _ sqp.underlying63
  have n1:(("form":String) ≠ "_") = True:=by simp
  have n2:(("from":String) ≠ "_") = True:=by simp
  have n3:(("by":String) ≠ "_") = True:=by simp
  simp only [Op.eqFields,n1,n2,n3,if_true,a1,a2,a3,b1,b2,b3,c1,c2,c3,Sem.run_bind,part_gl,part_int x2,part_let x3,x1,Result.andThen_ok,e1,e2,e3,Bool.not_true,Bool.false_eq_true,if_false,beq_self_eq_true,Sem.run_pure]
def zero51:List Int:=List.replicate 51 0
theorem infoFd:(sqp.prog.info? 65).map (fun i=>(i.zero,i.size,i.bytes)) = some (some (.agg (V zero51).toArray),51,408):=by kernel_rfl
theorem wpList_bs_fd {ops:Array Oper} {rest:List Oper} {o:Oper} {a:Act} {w:World} {Q:Exit->Act->World->Prop} (hgd:o.guard = none) (x:Operand) (ho:o.op = .buildSlice 55 1 #[(0,x)])
  (L:List Int) (hL:L.length = 51) (hx:a.eval x = .agg (V L).toArray)
  (h:wpList sqp.prog ops Q rest (a.put o.dst (.slice (some ⟨w.heap.size,0,none⟩) 1 1)) (w.alloc (.cells (V L).toArray 65))):wpList sqp.prog ops Q (o :: rest) a w:=by
 obtain ⟨i,hi,hz,hs,hb⟩:=info_parts infoFd
 refine wpList_buildSlice hgd 55 65 1 _ ho (V L).toArray i _ sqp.underlying55 hi hz (by rw [hs];decide) (by rw [hs];decide) ?_ h
 rw [hs]
 have:=Great.fill_whole (s:=51) (by decide) [.agg (V L).toArray] ((Array.range (1 * 51)).map ((Value.agg (V zero51).toArray).cells[· % (Value.agg (V zero51).toArray).cells.size]!)) (by simp [Value.cells,V_len,hL]) (by simp)
 simpa [hx,Value.cells] using this
theorem wpList_eql_fd {ops:Array Oper} {rest:List Oper} {o:Oper} {a:Act} {w:World} {Q:Exit->Act->World->Prop} (hgd:o.guard = none) (x y:Operand) (rt:TypeId) (ho:o.op = .binOp .eql 65 x y rt)
  (xs ys:Array Value) (hx:a.eval x = .agg xs) (hy:a.eval y = .agg ys) (b:Bool) (he:(Op.equalIn 10000 65 (.agg xs) (.agg ys)).run sqp.prog w = .ok b w)
  (h:wpList sqp.prog ops Q rest (a.put o.dst (.bool b)) w):wpList sqp.prog ops Q (o :: rest) a w:=by
 refine wpList_plain hgd fun K hK=>?_
 unfold Oper.wp execOp
 simp only [ho,hx,hy,Sem.run_bind,run_eqGuard_agg w .eql _ x y xs ys (show sqp.prog.eqGuardType sqp.prog.depth 65 = false by kernel_rfl),Result.andThen_ok,run_eql_struct,he,Sem.run_pure]
 exact hK _ _ h
theorem wpList_eql_gl {ops:Array Oper} {rest:List Oper} {o:Oper} {a:Act} {w:World} {Q:Exit->Act->World->Prop} (hgd:o.guard = none) (x y:Operand) (rt:TypeId) (ho:o.op = .binOp .eql 62 x y rt)
  (xs ys:Array Value) (hx:a.eval x = .agg xs) (hy:a.eval y = .agg ys) (b:Bool) (he:(Op.equalIn 10000 62 (.agg xs) (.agg ys)).run sqp.prog w = .ok b w)
  (h:wpList sqp.prog ops Q rest (a.put o.dst (.bool b)) w):wpList sqp.prog ops Q (o :: rest) a w:=by
 refine wpList_plain hgd fun K hK=>?_
 unfold Oper.wp execOp
 simp only [ho,hx,hy,Sem.run_bind,run_eqGuard_agg w .eql _ x y xs ys (show sqp.prog.eqGuardType sqp.prog.depth 62 = false by kernel_rfl),Result.andThen_ok,run_eql_struct,he,Sem.run_pure]
 exact hK _ _ h
end Go.Proofs.Ytgcnemkhppkkcaa.orb

namespace Go.Proofs.Ytgcnemkhppkkcaa.orb
open Go.ChangeShapes Go.WideShapes Go.ChangeAt Go.RowKit
open mem ints arr pm sf gl
open Go.Proofs.Ytgcnemkhppkkcaa.ch (Chn)
set_option linter.unusedVariables false
set_option maxRecDepth 100000
@[simp] theorem callSnd (args:Array Value) (w:World):Sem.run sqp.prog (callFunc sq.nfn args) w = .ok (.enter sq.nfn args) w:=by kernel_rfl
@[simp] theorem callGo (args:Array Value) (w:World):Sem.run sqp.prog (callFunc (sq.nfn + 1) args) w = .ok (.enter (sq.nfn + 1) args) w:=by kernel_rfl
set_option maxHeartbeats 1000000 in
theorem snd_any (c:Nat) (vs:List Value) (s:Sur) (n p l:Nat) (u:Value) (w:World) (hc:Chn w c 1000 vs false) (hr:vs.length < 1000) :
  Calls sqp.prog sq.nfn #[.chan (some c),.agg (V (fdL s n p l)).toArray,u,.bool true,.bool false] w fun e w'=>e = .returned (.tuple #[])/\Chn w' c 1000 (vs ++ [.agg (V (fdL s n p l)).toArray]) false/\Out c (c + 1) w w':=by
 have L51:=fdL_len s n p l
 have EQ:Hid (∀ W,(Op.equalIn 10000 65 (.agg (V (fdL s n p l)).toArray) (.agg (V (fdL s n p l)).toArray)).run sqp.prog W = .ok true W):=Lib.hid (fun W=>eq_fd s n p l W)
 generalize fdL s n p l = L at *
 have HC:=Lib.hid hc;clear hc
 have HR:=Lib.hid hr;clear hr
 go_enter sqp.funcSnd,sqp.ntmpsSnd
 simp only [sq.sendC,sq.opsA,sq.opsB,sq.oNo]
 refine wp_seq ?_
 refine wp_region_lit ?_
 refine wpList_eql_fd rfl (.tmp 1) (.tmp 1) _ rfl (V L).toArray (V L).toArray rfl rfl true (EQ.out _) ?_
 refine wpList_bs_fd rfl (.tmp 1) rfl L L51 rfl ?_
 refine wpList_nil ?_
 simp only [Act.put,Exit.then]
 have b1:Below w.heap.size w (w.alloc (.cells (V L).toArray 65)):=(Below.refl _ _).alloc (Nat.le_refl _) _
 have C1:Hid (Chn (w.alloc (.cells (V L).toArray 65)) c 1000 vs false):=Lib.hid (HC.out.keep b1 HC.out.lt)
 have O1:Hid (Out c (c + 1) w (w.alloc (.cells (V L).toArray 65))):=Lib.hid (Out.of_below b1)
 generalize w.alloc (.cells (V L).toArray 65) = w1 at *
 refine ch.region rfl ?_
 simp only [List.size_toArray,List.length_cons,List.length_nil,Nat.zero_add,List.range,List.range.loop]
 refine ch.Rw.sendL (c:=c) (v:=.agg (V L).toArray) (z':=.tuple #[]) rfl rfl (by simp [execOp,Conc.scase,Act.eval]) C1.out HR.out (fun w2 C2 o2=>?_)
 refine ch.Rw.nil ?_
 go_end0
 exact ⟨rfl,C2,O1.out.trans o2⟩
end Go.Proofs.Ytgcnemkhppkkcaa.orb
