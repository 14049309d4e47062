import Derived.Test.YtcdclihinmdgiaaZ04
import Derived.Test.YtcdclihinmdgiaaZ21
import Derived.Test.YtcdclihinmdgiaaZ22
import Derived.Great.BuildSlice
import Derived.Great.FillDense
import Derived.Lib.SliceRun
namespace Go.Proofs.Ytcdclihinmdgiaa.lst
open Go.ChangeShapes Go.WideShapes Go.ChangeAt Go.RowKit
open mem ints arr pm sf gl orb
open Go.Proofs.Ytcdclihinmdgiaa.wd
set_option linter.unusedVariables false
set_option maxRecDepth 100000
structure Fr (w w':World) (b:Nat) (v v':Value):Prop where
 os:w'.os = w.os
 tape:w'.tape = w.tape
 output:w'.output = w.output
 size:w.heap.size<=w'.heap.size
 block:∀ k,k < w.heap.size->k ≠ b->¬ v.ownBlock = some k->w'.heap[k]? = w.heap[k]?
 own:∀ k,v'.ownBlock = some k->v.ownBlock = some k\/w.heap.size<=k
theorem Fr.of {w w':World} (b:Nat) (v:Value) (h:Below w.heap.size w w'):Fr w w' b v v:=⟨h.os,h.tape,h.output,h.size,fun k hk _ _=>h.block k hk,fun k e=>.inl e⟩
theorem Fr.trans {w w1 w2:World} {b:Nat} {v v1 v2:Value} (h:Fr w w1 b v v1) (g:Fr w1 w2 b v1 v2):Fr w w2 b v v2 :=
 ⟨g.os.trans h.os,g.tape.trans h.tape,g.output.trans h.output,Nat.le_trans h.size g.size,fun k hk h1 h2=>(g.block k (Nat.lt_of_lt_of_le hk h.size) h1 (fun e=>by
  rcases h.own k e with q | q
  ·exact h2 q
  ·omega)).trans (h.block k hk h1 h2),fun k e=>by
  rcases g.own k e with q | q
  ·exact h.own k q
  ·exact .inr (Nat.le_trans h.size q)⟩
theorem Fr.below {w w':World} {b B:Nat} {v v':Value} (h:Fr w w' b v v') (h0:B<=w.heap.size) (h1:B<=b) (h2:∀ k,v.ownBlock = some k->B<=k):Below B w w' :=
 ⟨h.os,h.tape,h.output,h.size,fun k hk=>h.block k (by omega) (by omega) (fun e=>by have:=h2 k e;omega)⟩
structure As (w:World) (base b n:Nat) (v:Value) (L:List Sur):Prop where
 box:Arr w b [v,(.func (.func 14) #[] #[])] 46
 own:w.ownsRow base 43 49 v L.length (flG n L)
 nb:¬ v.ownBlock = some b
 asc:L.Pairwise fun a b=>bef a b = true
 sf:∀ y ∈ L,Sf n y.1 y.2
theorem As.keep {w w':World} {base b n:Nat} {v:Value} {L:List Sur} (h:As w base b n v L) (hb:Below w.heap.size w w'):As w' base b n v L :=
 ⟨h.box.keep hb h.box.lt,qg h.own (fun k e=>hb.block k (h.own.lt k e).2),h.nb,h.asc,h.sf⟩
theorem qib:∀ {L:List Sur} {n:Nat} {t:Sur},(L.Pairwise fun a b=>bef a b = true)->(∀ y ∈ L,Sf n y.1 y.2)->Sf n t.1 t.2->(qbe L t false).Pairwise fun a b=>bef a b = true
 | [],n,t,_,_,_=>by simp [qbe]
 | x :: l,n,t,hp,hs,ht=>by
  obtain ⟨h1,h2⟩:=List.pairwise_cons.1 hp
  have hl:∀ y ∈ l,Sf n y.1 y.2:=fun y hy=>hs y (List.mem_cons_of_mem _ hy)
  have sx:=hs x (List.mem_cons_self ..)
  rw [qbe]
  by_cases e:x = t
  ·subst e
   simpa [qcj] using hp
  ·rcases qgi (a:=t) (b:=x) (by rw [ht.lr,sx.lr]) (by rw [ht.lu,sx.lu]) (fun q=>e q.symm) with hb | hb
   ·simp only [e,hb,decide_false,Bool.or_false,Bool.not_false,Bool.and_true,if_true,qcj]
    refine List.pairwise_cons.2 ⟨fun y hy=>?_,hp⟩
    rcases List.mem_cons.1 hy with rfl | q
    ·exact hb
    ·exact qbi hb (h1 y q)
   ·simp only [e,qnf hb,decide_false,Bool.or_false,Bool.not_false,Bool.and_false,Bool.false_eq_true,if_false]
    refine List.pairwise_cons.2 ⟨fun y hy=>?_,qib h2 hl ht⟩
    rcases qcw _ _ _ _ hy with q | rfl
    ·exact h1 y q
    ·exact hb
theorem qqx {L:List Sur} {n:Nat} {t:Sur} (hs:∀ y ∈ L,Sf n y.1 y.2) (ht:Sf n t.1 t.2):∀ y ∈ qbe L t false,Sf n y.1 y.2:=fun y hy=>by
 rcases qcw _ _ _ _ hy with q | rfl
 ·exact hs y q
 ·exact ht
theorem bsG (base n:Nat) (v:Value) (L:List Sur) (t:Sur) (w:World) (ho:w.ownsRow base 43 49 v L.length (flG n L)) (ha:L.Pairwise fun a b=>bef a b = true) (hs:∀ y ∈ L,Sf n y.1 y.2) (ht:Sf n t.1 t.2) (hl:L.length<=1000) :
  Calls sqp.prog 38 #[v,.agg (V (gS t n)).toArray,(.func (.func 14) #[] #[])] w fun e w'=>∃ i:Nat,Pl L t i/\e = .returned (.tuple #[.int .i64 i,.bool (decide (L[i]? = some t))])/\Below w.heap.size w w':=by
 rcases ho.2 with ⟨rfl,q⟩ | ⟨g,cap,cur,rfl,h1,h2,h3,h4,h5,h6⟩
 ·obtain rfl:=List.length_eq_zero_iff.1 q
  refine (qud none 0 n t w).mono ?_
  rintro e w' ⟨rfl,b⟩
  exact ⟨0,⟨Nat.le_refl _,fun k x h=>by omega,fun k x _ h=>by simp at h⟩,by simp,b⟩
 ·exact quf g cap n L t w (Array.getElem?_eq_some_iff.1 h2).1 (fun j u hj=>by rw [Nat.zero_add];exact qav ho j u hj) ha hs ht h3 hl
theorem qqy (a:Act) (x:Operand) (L:List Int) (hL:L.length = 49) (hx:a.eval x = .agg (V L).toArray):Instr.fill (fun i=>some (i * 49,49)) ((Array.range (1 * 49)).map ((Value.agg (V qp).toArray).cells[· % (Value.agg (V qp).toArray).cells.size]!)) ((#[(0,x)]:Array (Nat × Operand)).map fun (i,x)=>(i,a.eval x)).toList = some (V L).toArray:=by
 have:=Great.fill_whole (s:=49) (by decide) [.agg (V L).toArray] ((Array.range (1 * 49)).map ((Value.agg (V qp).toArray).cells[· % (Value.agg (V qp).toArray).cells.size]!)) (by simp [Value.cells,q8,hL]) (by simp)
 simpa [hx,Value.cells] using this
theorem qhj {ops:Array Oper} {o:Oper} {a:Act} {w:World} {K:Act->World->Prop} {Q:Exit->Act->World->Prop} {E:Prop} (hgd:o.guard = none) (x:Operand) (ho:o.op = .buildSlice 44 1 #[(0,x)])
  (L:List Int) (hL:L.length = 49) (hx:a.eval x = .agg (V L).toArray)
  (h:K (a.put o.dst (.slice (some ⟨w.heap.size,0,none⟩) 1 1)) (w.alloc (.cells (V L).toArray 43))):if Region.wanted o (yielded ops a.tmps) = true then Oper.wp sqp.prog o a w K Q else E:=by
 have hw:Region.wanted o (yielded ops a.tmps) = true:=by simp [Region.wanted,hgd]
 rw [if_pos hw]
 obtain ⟨i,hi,hz,hs,hb⟩:=info_parts qlo
 exact wp_buildSlice 44 43 1 _ ho (V L).toArray i _ sqp.underlying44 hi hz (by rw [hs];decide) (by rw [hs];decide) (by rw [hs];exact qqy a x L hL hx) h
theorem qck {ops:Array Oper} {rest:List Oper} {o:Oper} {a:Act} {w:World} {Q:Exit->Act->World->Prop} (hgd:o.guard = none) (x:Operand) (ho:o.op = .buildSlice 44 1 #[(0,x)])
  (L:List Int) (hL:L.length = 49) (hx:a.eval x = .agg (V L).toArray)
  (h:wpList sqp.prog ops Q rest (a.put o.dst (.slice (some ⟨w.heap.size,0,none⟩) 1 1)) (w.alloc (.cells (V L).toArray 43))):wpList sqp.prog ops Q (o :: rest) a w:=by
 obtain ⟨i,hi,hz,hs,hb⟩:=info_parts qlo
 exact wpList_buildSlice hgd 44 43 1 _ ho (V L).toArray i _ sqp.underlying44 hi hz (by rw [hs];decide) (by rw [hs];decide) (by rw [hs];exact qqy a x L hL hx) h
theorem qw4 (t:Sur) (n:Nat):∀ u ∈ V (gS t n),u.oneCell' = true:=by
 intro u hu
 unfold V at hu
 obtain ⟨x,_,rfl⟩:=List.mem_map.1 hu
 rfl
set_option maxHeartbeats 1000000 in
theorem qqz (base b n:Nat) (v:Value) (L:List Sur) (t:Sur) (w:World) (ha:As w base b n v L) (hbb:base<=b) (ht:Sf n t.1 t.2) (hl:L.length<=900) :
  Calls sqp.prog 18 #[.pointer (some ⟨b,0,none⟩),.agg (V (gS t n)).toArray] w fun e w'=>∃ v',e = .returned (.tuple #[])/\As w' base b n v' (qbe L t false)/\Fr w w' b v v':=by
 have AS:=Lib.hid ha;have HT:=Lib.hid ht;clear ha ht
 have hb:=AS.out.box.lt
 have SZ:(V (gS t n)).toArray.size = 49:=by simp [qaw]
 have LC:(V (gS t n)).toArray.toList = V (gS t n):=by simp
 have B0:Hid (∃ W,W = w.alloc (.cells (V (gS t n)).toArray 43)/\Below w.heap.size w W/\Arr W w.heap.size (V (gS t n)) 43):=Lib.hid ⟨_,rfl,(Below.refl _ _).alloc (Nat.le_refl _) _,Arr.new w _ _ rfl⟩
 have NB:Hid (∀ k,v.ownBlock = some k->¬ w.heap.size<=k):=Lib.hid (fun k e=>by have:=(AS.out.own.lt k e).2;omega)
 go_enter sqp.func18,sqp.ntmps18
 go_wp2_with fail
 obtain ⟨w0,eW,bl0,ar0⟩:=B0.out
 rw [<-eW]
 have BL:=Lib.hid bl0;have AR:=Lib.hid ar0;have AS0:=Lib.hid (AS.out.keep bl0)
 clear eW bl0 ar0 B0
 have s0:=BL.out.size
 have hbx:=AR.out.lt
 refine wp_region_held_drew (S:=Hld w0.heap.size w0.heap.size w0 [(b,[v,(.func (.func 14) #[] #[])]),(w.heap.size,V (gS t n))]) (by kernel_rfl) (Hld.start (fun p hp=>by
  rcases List.mem_cons.1 hp with rfl | hp
  ·exact ⟨by omega,fun k u hk=>by rw [Nat.zero_add];exact AS0.out.box.cell hk⟩
  ·rcases List.mem_cons.1 hp with rfl | hp
   ·exact ⟨AR.out.lt,fun k u hk=>by rw [Nat.zero_add];exact AR.out.cell hk⟩
   ·simp at hp)) (fun hHeld=>?_)
 have b1:Below w0.heap.size w0 w0.drew:=⟨rfl,rfl,rfl,Nat.le_refl _,fun _ _=>rfl⟩
 have BL1:=Lib.hid (BL.out.trans (b1.mono s0));have AR1:=Lib.hid (AR.out.keep b1 AR.out.lt);have AS1:=Lib.hid (AS0.out.keep b1)
 have s1:=b1.size
 generalize w0.drew = w1 at *
 clear b1 BL AR AS0
 refine wpAnyH_take (i:=0) (v:=.pointer (some ⟨b,0,none⟩)) rfl (by kernel_rfl) (by kernel_rfl) (by kernel_rfl) (fun _ _ _ h=>h) (Or.inl ⟨by kernel_rfl,fun w hSw=>by go_simp⟩) hHeld ?_
 refine wpAnyH_take (i:=1) (v:=.pointer (some ⟨b,0,none⟩)) rfl (by kernel_rfl) (by kernel_rfl) (by kernel_rfl) (fun _ _ _ h=>h) (Or.inl ⟨by kernel_rfl,fun w hSw=>by go_simp⟩) hHeld ?_
 refine wpAnyH_take (i:=2) (v:=.pointer (some ⟨b,0,none⟩)) rfl (by kernel_rfl) (by kernel_rfl) (by kernel_rfl) (fun _ _ _ h=>h) (Or.inl ⟨by kernel_rfl,fun w hSw=>by go_simp⟩) hHeld ?_
 refine wpAnyH_take (i:=3) (v:=v) rfl (by kernel_rfl) (by kernel_rfl) (by kernel_rfl) (fun _ _ _ h=>h) (Or.inl ⟨by kernel_rfl,fun w hSw=>by have c0:=hSw.fst 0 v rfl;go_simp⟩) hHeld ?_
 refine wpAnyH_take (i:=4) (v:=.agg (V (gS t n)).toArray) rfl (by kernel_rfl) (by kernel_rfl) (by kernel_rfl) (fun _ _ _ h=>h) (yieldsIf_load_mid (by kernel_rfl) _ _ rfl w.heap.size 0 (by kernel_rfl) (V (gS t n)) _ (fun w h=>h.snd) sqp.underlying43 rfl (hiS t n)) hHeld ?_
 refine wpAnyH_take (i:=5) (v:=.pointer (some ⟨b,0,none⟩)) rfl (by kernel_rfl) (by kernel_rfl) (by kernel_rfl) (fun _ _ _ h=>h) (Or.inl ⟨by kernel_rfl,fun w hSw=>by go_simp⟩) hHeld ?_
 refine wpAnyH_take (i:=6) (v:=.pointer (some ⟨b,0,none⟩)) rfl (by kernel_rfl) (by kernel_rfl) (by kernel_rfl) (fun _ _ _ h=>h) (Or.inl ⟨by kernel_rfl,fun w hSw=>by go_simp⟩) hHeld ?_
 refine wpAnyH_take (i:=7) (v:=.pointer (some ⟨b,1,none⟩)) rfl (by kernel_rfl) (by kernel_rfl) (by kernel_rfl) (fun _ _ _ h=>h) (Or.inl ⟨by kernel_rfl,fun w hSw=>by go_simp⟩) hHeld ?_
 refine wpAnyH_take (i:=8) (v:=(.func (.func 14) #[] #[])) rfl (by kernel_rfl) (by kernel_rfl) (by kernel_rfl) (fun _ _ _ h=>h) (Or.inl ⟨by kernel_rfl,fun w hSw=>by have c1:=hSw.fst 1 _ rfl;go_simp⟩) hHeld ?_
 refine wpAnyH_ready (rs:=[9]) (by kernel_rfl) (by simp) (AllReadyH.cons rfl (fun K hK=>?_) AllReadyH.nil)
 go_simp
 refine (bsG base n v L t _ AS1.out.own AS1.out.asc AS1.out.sf HT.out (by omega)).mono ?_
 rintro e w2 ⟨i,pl,rfl,b2⟩
 have PL:=Lib.hid pl
 have BL2:=Lib.hid (BL1.out.trans (b2.mono (by omega)));have AR2:=Lib.hid (AR1.out.keep b2 AR1.out.lt);have AS2:=Lib.hid (AS1.out.keep b2)
 have s2:=b2.size
 clear BL1 AR1 AS1 pl
 go_wp2_with fail
 have hHeld2:=hHeld.later b2 (Nat.le_refl _)
 clear b2 hHeld
 refine hK.out _ _ hHeld2 (fun hHeld=>?_)
 clear hK K hHeld2
 refine wpAnyH_take (i:=10) (v:=.tuple #[.int .i64 i,.bool (decide (L[i]? = some t))]) rfl (by kernel_rfl) (by kernel_rfl) (by kernel_rfl) (fun _ _ _ h=>h) (Or.inl ⟨by kernel_rfl,fun w hSw=>by go_simp⟩) hHeld ?_
 refine wpAnyH_take (i:=11) (v:=.int .i64 i) rfl (by kernel_rfl) (by kernel_rfl) (by kernel_rfl) (fun _ _ _ h=>h) (Or.inl ⟨by kernel_rfl,fun w hSw=>by go_simp⟩) hHeld ?_
 refine wpAnyH_take (i:=12) (v:=.bool (decide (L[i]? = some t))) rfl (by kernel_rfl) (by kernel_rfl) (by kernel_rfl) (fun _ _ _ h=>h) (Or.inl ⟨by kernel_rfl,fun w hSw=>by go_simp⟩) hHeld ?_
 refine wpAnyH_take (i:=13) (v:=.int .i64 i) rfl (by kernel_rfl) (by kernel_rfl) (by kernel_rfl) (fun _ _ _ h=>h) (Or.inl ⟨by kernel_rfl,fun w hSw=>by go_simp⟩) hHeld ?_
 refine wpAnyH_take (i:=14) (v:=.bool (decide (L[i]? = some t))) rfl (by kernel_rfl) (by kernel_rfl) (by kernel_rfl) (fun _ _ _ h=>h) (Or.inl ⟨by kernel_rfl,fun w hSw=>by go_simp⟩) hHeld ?_
 refine wpAnyH_done (by kernel_rfl) ?_ _
 clear hHeld
 go_simp
 have INS:=Lib.hid (Pl.ins HT.out PL.out AS2.out.sf)
 have hi:=PL.out.le
 by_cases hf:L[i]? = some t
 ·have HF:decide (L[i]? = some t) = true:=decide_eq_true hf
  have EN:Hid (qbe L t false = L):=Lib.hid (by rw [INS.out,if_pos hf])
  clear hf INS
  rw [HF]
  clear HF
  go_wp2_with fail
  go_end0
  exact ⟨v,rfl,by rw [EN.out];exact AS2.out,Fr.of b v BL2.out⟩
 ·have HF:decide (L[i]? = some t) = false:=decide_eq_false hf
  have EN:Hid (qbe L t false = L.take i ++ t :: L.drop i):=Lib.hid (by rw [INS.out,if_neg hf])
  clear hf INS
  rw [HF]
  clear HF
  go_wp2_with fail
  refine wp_region_held_drew (S:=Hld base w2.heap.size w2 [(w.heap.size,V (gS t n))]) (by kernel_rfl) (Hld.lower (Hld.start (fun p hp=>by
   rcases List.mem_cons.1 hp with rfl | hp
   ·exact ⟨AR2.out.lt,fun k u hk=>by rw [Nat.zero_add];exact AR2.out.cell hk⟩
   ·simp at hp)) (by omega)) (fun hHeld=>?_)
  have b1:Below w2.heap.size w2 w2.drew:=⟨rfl,rfl,rfl,Nat.le_refl _,fun _ _=>rfl⟩
  have BL3:=Lib.hid (BL2.out.trans (b1.mono (by omega)));have AR3:=Lib.hid (AR2.out.keep b1 AR2.out.lt);have AS3:=Lib.hid (AS2.out.keep b1)
  have s3:=b1.size
  generalize w2.drew = w3 at *
  clear b1 BL2 AR2 AS2
  refine wpAnyH_take (i:=0) (v:=.pointer (some ⟨b,0,none⟩)) rfl (by kernel_rfl) (by kernel_rfl) (by kernel_rfl) (fun _ _ _ h=>h) (Or.inl ⟨by kernel_rfl,fun w hSw=>by go_simp⟩) hHeld ?_
  refine wpAnyH_take (i:=1) (v:=.pointer (some ⟨b,0,none⟩)) rfl (by kernel_rfl) (by kernel_rfl) (by kernel_rfl) (fun _ _ _ h=>h) (Or.inl ⟨by kernel_rfl,fun w hSw=>by go_simp⟩) hHeld ?_
  refine wpAnyH_take (i:=2) (v:=.pointer (some ⟨b,0,none⟩)) rfl (by kernel_rfl) (by kernel_rfl) (by kernel_rfl) (fun _ _ _ h=>h) (Or.inl ⟨by kernel_rfl,fun w hSw=>by go_simp⟩) hHeld ?_
  refine wpAnyH_take (i:=3) (v:=.pointer (some ⟨b,0,none⟩)) rfl (by kernel_rfl) (by kernel_rfl) (by kernel_rfl) (fun _ _ _ h=>h) (Or.inl ⟨by kernel_rfl,fun w hSw=>by go_simp⟩) hHeld ?_
  refine wpAnyH_take (i:=5) (v:=.int .i64 i) rfl (by kernel_rfl) (by kernel_rfl) (by kernel_rfl) (fun _ _ _ h=>h) (Or.inl ⟨by kernel_rfl,fun w hSw=>by go_simp⟩) hHeld ?_
  refine wpAnyH_take (i:=6) (v:=.agg (V (gS t n)).toArray) rfl (by kernel_rfl) (by kernel_rfl) (by kernel_rfl) (fun _ _ _ h=>h) (yieldsIf_load_mid (by kernel_rfl) _ _ rfl w.heap.size 0 (by kernel_rfl) (V (gS t n)) _ (fun w h=>h.fst) sqp.underlying43 rfl (hiS t n)) hHeld ?_
  have c0:w3.cell? ⟨b,0,none⟩ = some v:=AS3.out.box.cell rfl
  have bA:Below w3.heap.size w3 (w3.alloc (.cells (V (gS t n)).toArray 43)):=(Below.refl _ _).alloc (Nat.le_refl _) _
  have hHA:Hld base w2.heap.size w2 [(w.heap.size,V (gS t n))] (w3.alloc (.cells (V (gS t n)).toArray 43)):=hHeld.later bA (by omega)
  refine wpAnyH_ready (rs:=[4,7]) (by kernel_rfl) (by simp) (AllReadyH.cons rfl (fun K hK=>?_) (AllReadyH.cons rfl (fun K hK=>?_) AllReadyH.nil))
  ·go_simp
   refine hK.out _ _ hHeld (fun hHeld2=>?_)
   clear hK K hHeld2
   refine wpAnyH_ready (rs:=[7]) (by kernel_rfl) (by simp) (AllReadyH.cons rfl (fun K hK=>?_) AllReadyH.nil)
   refine qhj rfl _ rfl (gS t n) (qaq t n) (by kernel_rfl) ?_
   refine hK.out _ _ hHA (fun hHeld2=>?_)
   clear hK K hHeld2
   have AS4:=Lib.hid (AS3.out.keep bA);have AR4:=Lib.hid (Arr.new w3 (V (gS t n)) 43 rfl);have BL4:=Lib.hid (BL3.out.trans (bA.mono (by omega)))
   have s4:=bA.size
   generalize hw4:w3.alloc (.cells (V (gS t n)).toArray 43) = w4 at *
   clear hw4 c0 bA AR3 AS3 BL3 hHeld
   refine wpAnyH_ready (rs:=[8]) (by kernel_rfl) (by simp) (AllReadyH.cons rfl (fun K hK=>?_) AllReadyH.nil)
   go_simp
   refine (qne v L.length i w3.heap.size base (flG n L) (V (gS t n)) _ AS4.out.own hi (by omega) (by omega) AR4.out (qaw t n) (qw4 t n) (qlq n L) (fun e=>by have:=(AS4.out.own.lt _ e).2;have:=AR4.out.lt;exact NB.out _ e (by omega))).mono ?_
   rintro e w5 ⟨v5,rfl,o5,g5,ob5⟩
   obtain ⟨A5,k5,rfl⟩:=mem.za o5
   have hn5:¬ (Value.slice A5 (L.length + 1) k5).ownBlock = some b:=fun e=>by
    rcases ob5 b e with q | q
    ·exact AS4.out.nb q
    ·have:=AS4.out.box.lt;omega
   have bx5:Arr w5 b [v,(.func (.func 14) #[] #[])] 46:=(g5.block b AS4.out.box.lt (fun e=>AS4.out.nb e.symm)).trans AS4.out.box
   have hH5:Hld base w2.heap.size w2 [(w.heap.size,V (gS t n))] w5:=⟨fun p hp=>⟨(hHA.at_ p hp).1,fun k u hk=>by
    have hp1:=(hHA.at_ p hp).1
    rw [World.cell?_of_block (w:=w4) (a:=⟨p.1,0 + k,none⟩) (g5.block p.1 (by omega) (fun e=>by
     have:=(List.mem_singleton.1 hp)
     subst this
     exact NB.out _ e.symm (Nat.le_refl _)))]
    exact (hHA.at_ p hp).2 k u hk⟩,hHA.below.trans ⟨g5.os,g5.tape,g5.output,g5.size,fun k hk=>g5.block k (by omega) (fun e=>by have:=(AS4.out.own.lt k e.symm).1;omega)⟩,Nat.le_trans hHA.size g5.size⟩
   have AS5:Hid (w5.ownsRow base 43 49 (.slice A5 (L.length + 1) k5) (qbe L t false).length (flG n (qbe L t false))):=Lib.hid (by
    rw [EN.out,<-qqw]
    have e:(L.take i ++ t :: L.drop i).length = L.length + 1:=by simp;omega
    rw [e];exact o5)
   have FR:Hid (Fr w w5 b v (.slice A5 (L.length + 1) k5)):=Lib.hid ((Fr.of b v BL4.out).trans ⟨g5.os,g5.tape,g5.output,g5.size,fun k hk h1 h2=>g5.block k hk (fun e=>h2 e.symm),ob5⟩)
   have s5:=g5.size
   clear o5 g5 ob5
   go_wp2_with fail
   refine hK.out _ _ hH5 (fun hHeld2=>?_)
   clear hK K hHeld2
   refine wpAnyH_ready (rs:=[9]) (by kernel_rfl) (by simp) (AllReadyH.cons rfl (fun K hK=>?_) AllReadyH.nil)
   go_simp
   refine hK.out _ _ hH5 (fun hHeld2=>?_)
   clear hK K hHeld2
   refine wpAnyH_ready (rs:=[10]) (by kernel_rfl) (by simp) (AllReadyH.cons rfl (fun K hK=>?_) AllReadyH.nil)
   go_simp
   refine hK.out _ _ hH5 (fun hHeld2=>?_)
   clear hK K hHeld2
   refine wpAnyH_ready (rs:=[11]) (by kernel_rfl) (by simp) (AllReadyH.cons rfl (fun K hK=>?_) AllReadyH.nil)
   have c5:w5.cell? ⟨b,0,none⟩ = some v:=bx5.cell rfl
   have f5:w5.frozen? ⟨b,0,none⟩ = false:=bx5.frozen 0
   go_simp
   rw [setCell_eq_setRow w5 b 0 _ _ _ _ bx5]
   have hH6:=hH5.other (g:=b) hbb (fun p hp=>by
    have:=List.mem_singleton.1 hp
    subst this
    show w.heap.size ≠ b
    omega) (#[.slice A5 (L.length + 1) k5,(.func (.func 14) #[] #[])]:Array Value)
   refine hK.out _ _ hH6 (fun hHeld2=>?_)
   clear hK K hHeld2
   refine wpAnyH_done (by kernel_rfl) ?_ _
   go_simp
   go_wp2_with fail
   go_end0
   have o6:∀ k,k ≠ b->(w5.setRow b #[.slice A5 (L.length + 1) k5,(.func (.func 14) #[] #[])]).heap[k]? = w5.heap[k]?:=fun k hk=>setRow_other _ _ _ _ hk
   exact ⟨_,rfl,⟨bx5.row (cs':=[.slice A5 (L.length + 1) k5,(.func (.func 14) #[] #[])]),qg AS5.out (fun k e=>o6 k (fun q=>hn5 (by rw [e,q]))),hn5,qib AS4.out.asc AS4.out.sf HT.out,qqx AS4.out.sf HT.out⟩,⟨FR.out.os,FR.out.tape,FR.out.output,by simpa using FR.out.size,fun k hk h1 h2=>(o6 k h1).trans (FR.out.block k hk h1 h2),FR.out.own⟩⟩
  ·refine qhj rfl _ rfl (gS t n) (qaq t n) (by kernel_rfl) ?_
   refine hK.out _ _ hHA (fun hHeld2=>?_)
   clear hK K hHeld2
   have c0':(w3.alloc (.cells (V (gS t n)).toArray 43)).cell? ⟨b,0,none⟩ = some v:=(AS3.out.keep bA).box.cell rfl
   refine wpAnyH_ready (rs:=[4]) (by kernel_rfl) (by simp) (AllReadyH.cons rfl (fun K hK=>?_) AllReadyH.nil)
   go_simp
   refine hK.out _ _ hHA (fun hHeld2=>?_)
   clear hK K hHeld2
   have AS4:=Lib.hid (AS3.out.keep bA);have AR4:=Lib.hid (Arr.new w3 (V (gS t n)) 43 rfl);have BL4:=Lib.hid (BL3.out.trans (bA.mono (by omega)))
   have s4:=bA.size
   generalize hw4:w3.alloc (.cells (V (gS t n)).toArray 43) = w4 at *
   clear hw4 c0 bA AR3 AS3 BL3 hHeld
   refine wpAnyH_ready (rs:=[8]) (by kernel_rfl) (by simp) (AllReadyH.cons rfl (fun K hK=>?_) AllReadyH.nil)
   go_simp
   refine (qne v L.length i w3.heap.size base (flG n L) (V (gS t n)) _ AS4.out.own hi (by omega) (by omega) AR4.out (qaw t n) (qw4 t n) (qlq n L) (fun e=>by have:=(AS4.out.own.lt _ e).2;have:=AR4.out.lt;exact NB.out _ e (by omega))).mono ?_
   rintro e w5 ⟨v5,rfl,o5,g5,ob5⟩
   obtain ⟨A5,k5,rfl⟩:=mem.za o5
   have hn5:¬ (Value.slice A5 (L.length + 1) k5).ownBlock = some b:=fun e=>by
    rcases ob5 b e with q | q
    ·exact AS4.out.nb q
    ·have:=AS4.out.box.lt;omega
   have bx5:Arr w5 b [v,(.func (.func 14) #[] #[])] 46:=(g5.block b AS4.out.box.lt (fun e=>AS4.out.nb e.symm)).trans AS4.out.box
   have hH5:Hld base w2.heap.size w2 [(w.heap.size,V (gS t n))] w5:=⟨fun p hp=>⟨(hHA.at_ p hp).1,fun k u hk=>by
    have hp1:=(hHA.at_ p hp).1
    rw [World.cell?_of_block (w:=w4) (a:=⟨p.1,0 + k,none⟩) (g5.block p.1 (by omega) (fun e=>by
     have:=(List.mem_singleton.1 hp)
     subst this
     exact NB.out _ e.symm (Nat.le_refl _)))]
    exact (hHA.at_ p hp).2 k u hk⟩,hHA.below.trans ⟨g5.os,g5.tape,g5.output,g5.size,fun k hk=>g5.block k (by omega) (fun e=>by have:=(AS4.out.own.lt k e.symm).1;omega)⟩,Nat.le_trans hHA.size g5.size⟩
   have AS5:Hid (w5.ownsRow base 43 49 (.slice A5 (L.length + 1) k5) (qbe L t false).length (flG n (qbe L t false))):=Lib.hid (by
    rw [EN.out,<-qqw]
    have e:(L.take i ++ t :: L.drop i).length = L.length + 1:=by simp;omega
    rw [e];exact o5)
   have FR:Hid (Fr w w5 b v (.slice A5 (L.length + 1) k5)):=Lib.hid ((Fr.of b v BL4.out).trans ⟨g5.os,g5.tape,g5.output,g5.size,fun k hk h1 h2=>g5.block k hk (fun e=>h2 e.symm),ob5⟩)
   have s5:=g5.size
   clear o5 g5 ob5
   go_wp2_with fail
   refine hK.out _ _ hH5 (fun hHeld2=>?_)
   clear hK K hHeld2
   refine wpAnyH_ready (rs:=[9]) (by kernel_rfl) (by simp) (AllReadyH.cons rfl (fun K hK=>?_) AllReadyH.nil)
   go_simp
   refine hK.out _ _ hH5 (fun hHeld2=>?_)
   clear hK K hHeld2
   refine wpAnyH_ready (rs:=[10]) (by kernel_rfl) (by simp) (AllReadyH.cons rfl (fun K hK=>?_) AllReadyH.nil)
   go_simp
   refine hK.out _ _ hH5 (fun hHeld2=>?_)
   clear hK K hHeld2
   refine wpAnyH_ready (rs:=[11]) (by kernel_rfl) (by simp) (AllReadyH.cons rfl (fun K hK=>?_) AllReadyH.nil)
   have c5:w5.cell? ⟨b,0,none⟩ = some v:=bx5.cell rfl
   have f5:w5.frozen? ⟨b,0,none⟩ = false:=bx5.frozen 0
   go_simp
   rw [setCell_eq_setRow w5 b 0 _ _ _ _ bx5]
   have hH6:=hH5.other (g:=b) hbb (fun p hp=>by
    have:=List.mem_singleton.1 hp
    subst this
    show w.heap.size ≠ b
    omega) (#[.slice A5 (L.length + 1) k5,(.func (.func 14) #[] #[])]:Array Value)
   refine hK.out _ _ hH6 (fun hHeld2=>?_)
   clear hK K hHeld2
   refine wpAnyH_done (by kernel_rfl) ?_ _
   go_simp
   go_wp2_with fail
   go_end0
   have o6:∀ k,k ≠ b->(w5.setRow b #[.slice A5 (L.length + 1) k5,(.func (.func 14) #[] #[])]).heap[k]? = w5.heap[k]?:=fun k hk=>setRow_other _ _ _ _ hk
   exact ⟨_,rfl,⟨bx5.row (cs':=[.slice A5 (L.length + 1) k5,(.func (.func 14) #[] #[])]),qg AS5.out (fun k e=>o6 k (fun q=>hn5 (by rw [e,q]))),hn5,qib AS4.out.asc AS4.out.sf HT.out,qqx AS4.out.sf HT.out⟩,⟨FR.out.os,FR.out.tape,FR.out.output,by simpa using FR.out.size,fun k hk h1 h2=>(o6 k h1).trans (FR.out.block k hk h1 h2),FR.out.own⟩⟩
end Go.Proofs.Ytcdclihinmdgiaa.lst

namespace Go.Proofs.Ytcdclihinmdgiaa.lst
open Go.ChangeShapes Go.WideShapes Go.ChangeAt Go.RowKit
open mem ints arr pm sf gl orb
open Go.Proofs.Ytcdclihinmdgiaa.wd
set_option linter.unusedVariables false
set_option maxRecDepth 100000
set_option maxHeartbeats 1000000 in
theorem q0y (base n:Nat) (v:Value) (xs:List Value) (w:World) (ho:w.ownsRow base 43 49 v n xs) (hn:n<=1000) (h1:∀ u ∈ xs,u.oneCell' = true) :
  Calls sqp.prog 40 #[v] w fun e w'=>∃ v',e = .returned v'/\w'.ownsRow w.heap.size 43 49 v' n xs/\Below w.heap.size w w':=by
 obtain ⟨i0,hi0,hz0,hzs,hzb⟩:=info_parts qlo
 have zc:((Value.agg (V qp).toArray).cells).size = 49:=by kernel_rfl
 have HO:=Lib.hid ho;have H1:=Lib.hid h1
 have h63:0 + n<=maxLen:=by unfold maxLen;omega
 have hby:((0 + n) + (0 + n) / 4 + 192) * 392<=281474976710656:=by omega
 have hxl:xs.length = n * 49:=ho.1
 have hq:=fun (W:World) (A:Option Addr) (m k:Nat)=>Lib.run_eql_slice_nil (P:=sqp.prog) W 44 43 A m k 0 0 sqp.underlying44
 clear h1
 rcases ho.2 with ⟨q,q2⟩ | ⟨g,c,cur,q,h1',h2,h3,h4,h5,h6⟩
 ·subst q
  subst q2
  have hxs:xs = []:=by simpa using ho.1
  subst hxs
  clear ho
  go_enter sqp.func40,sqp.ntmps40
  go_wp2_with fail
  go_ret
  exact ⟨_,rfl,⟨rfl,.inl ⟨rfl,rfl⟩⟩,Below.refl _ _⟩
 ·subst q
  clear ho h1' h2 h3 h4 h5 h6
  have OW1:Hid ((w.alloc (.cells #[] 43)).ownsRow w.heap.size 43 49 (.slice (some ⟨w.heap.size,0,none⟩) 0 0) 0 []):=Lib.hid ⟨rfl,.inr ⟨w.heap.size,0,#[],rfl,Nat.le_refl _,heap_alloc_last w _,Nat.le_refl _,by unfold maxLen;omega,rfl,rfl⟩⟩
  have BA:Hid (Below w.heap.size w (w.alloc (.cells #[] 43))):=Lib.hid ((Below.refl _ _).alloc (Nat.le_refl _) _)
  have HN:Hid (∀ (j:Nat) u,xs[j]? = some u->(w.alloc (.cells #[] 43)).cell? ((⟨g,0,none⟩:Addr).add j) = some u):=Lib.hid (fun j u hj=>by
   rw [show ((⟨g,0,none⟩:Addr).add j) = ⟨g,j,none⟩ by unfold Addr.add;split <;> simp_all]
   rw [BA.out.cell (p:=⟨g,j,none⟩) (HO.out.lt g rfl).2]
   exact qav HO.out j u hj)
  go_enter sqp.func40,sqp.ntmps40
  go_wp2_with (at_builtin;refine wpList_append_own_wide (w.alloc (.cells #[] 43)) rfl _ _ 44 rfl w.heap.size 43 i0 _ 49 392 sqp.underlying44 hi0 hz0 hzs hzb zc (by decide) (.slice (some ⟨w.heap.size,0,none⟩) 0 0) 0 [] rfl OW1.out ⟨g,0,none⟩ n c xs rfl hxl HN.out H1.out h63 hby (by simp) ?_)
  intro v2 w2 ho2 hg2 _
  have B2:=Lib.hid (BA.out.trans (own_below OW1.out hg2 (Nat.le_refl _) (by simp)))
  have O2:=Lib.hid ho2
  clear ho2 hg2
  go_wp2_with fail
  go_ret
  exact ⟨_,rfl,O2.out,B2.out⟩
theorem qyb:∀ u ∈ (Value.agg (V qp).toArray).cells,u.oneCell' = true:=by
 intro u hu
 have:u ∈ V qp:=by simpa [Value.cells] using hu
 unfold V at this
 obtain ⟨x,_,rfl⟩:=List.mem_map.1 this
 rfl
set_option maxHeartbeats 1000000 in
theorem q00 (base b n:Nat) (v:Value) (L:List Sur) (w:World) (ha:As w base b n v L) (hbb:base<=b) (hl:L.length<=900) :
  Calls sqp.prog 19 #[.pointer (some ⟨b,0,none⟩)] w fun e w'=>∃ v' v2,e = .returned v'/\w'.ownsRow w.heap.size 43 49 v' L.length (flG n L)/\As w' base b n v2 []/\Fr w w' b v v2:=by
 have AS:=Lib.hid ha;clear ha
 have hb:=AS.out.box.lt
 have LT:=Lib.hid AS.out.own.lt
 have c0:w.cell? ⟨b,0,none⟩ = some v:=AS.out.box.cell rfl
 go_enter sqp.func19,sqp.ntmps19
 go_wp2_with fail
 refine (q0y base L.length v (flG n L) _ AS.out.own (by omega) (qlq n L)).mono ?_
 rintro e w1 ⟨v1,rfl,o1,b1⟩
 have O1:=Lib.hid o1;have B1:=Lib.hid b1
 have bx:Arr w1 b [v,(.func (.func 14) #[] #[])] 46:=AS.out.box.keep b1 hb
 have OW:=Lib.hid ((AS.out.keep b1).own)
 have NB:=Lib.hid AS.out.nb
 have s1:=b1.size
 clear o1 b1 c0 AS
 have c1:w1.cell? ⟨b,0,none⟩ = some v:=bx.cell rfl
 rcases OW.out.2 with ⟨q,q2⟩ | ⟨g,c,cur,q,h1',h2,h3,h4,h5,h6⟩
 ·subst q
  have f1:w1.frozen? ⟨b,0,none⟩ = false:=bx.frozen 0
  have hrc:=fun ty=>qdh (P:=sqp.prog) w1 44 43 ty sqp.underlying44 none 0
  go_wp2_with (at_builtin;refine qci _ rfl _ 44 rfl _ rfl (hrc _) ?_)
  rw [setCell_eq_setRow w1 b 0 _ _ _ _ bx]
  go_wp2_with fail
  go_ret
  have o6:∀ k,k ≠ b->(w1.setRow b #[.slice none 0 0,(.func (.func 14) #[] #[])]).heap[k]? = w1.heap[k]?:=fun k hk=>setRow_other _ _ _ _ hk
  refine ⟨_,.slice none 0 0,rfl,qg O1.out (fun k e=>o6 k (fun q=>by have:=(O1.out.lt k e).1;omega)),⟨bx.row (cs':=[.slice none 0 0,(.func (.func 14) #[] #[])]),⟨rfl,.inl ⟨rfl,rfl⟩⟩,NB.out,List.Pairwise.nil,fun y hy=>by simp at hy⟩,?_⟩
  exact ⟨B1.out.os,B1.out.tape,B1.out.output,by simpa using B1.out.size,fun k hk h1 h2=>(o6 k h1).trans (B1.out.block k hk),fun k e=>.inl e⟩
 ·subst q
  have hgb:g ≠ b:=fun e=>NB.out (by rw [e];rfl)
  have hgw:=(LT.out g rfl).2
  obtain ⟨R,hR,hRs⟩:∃ R:Array Value,(∀ ty,(Builtin.clear_ #[44] ty #[.slice (some ⟨g,0,none⟩) L.length c]).run sqp.prog w1 = .ok (.tuple #[]) (w1.setRow g R))/\R.size = c * 49:=by
   by_cases hz:L.length = 0
   ·refine ⟨cur,fun ty=>?_,h5⟩
    rw [hz,setRow_self w1 g cur _ _ h2]
    exact qdh w1 44 43 ty sqp.underlying44 _ c
   ·have zc:((Value.agg (V qp).toArray).cells).size = 49:=by kernel_rfl
    have hm:L.length * 49<=c * 49:=Nat.mul_le_mul_right 49 h3
    have hzz:(sqp.prog.info? 43).map (·.zero) = some (some (.agg (V qp).toArray)):=by
     obtain ⟨i0,hi0,hz0,_,_⟩:=info_parts qlo
     rw [hi0];simp [hz0]
    refine ⟨_,fun ty=>qln w1 44 43 ty (.agg (V qp).toArray) sqp.underlying44 hzz qyb g 0 L.length c (by omega) cur _ h2 (by rw [zc,h5];omega),?_⟩
    simp [y8,zc,h5]
    omega
  obtain ⟨w2,hw2⟩:∃ w2,w2 = w1.setRow g R:=⟨_,rfl⟩
  rw [<-hw2] at hR
  have HG2:w2.heap[g]? = some (.cells R 43 (0,0)):=by rw [hw2];exact setRow_heap _ _ _ _ _ _ h2
  have o2:∀ k,k ≠ g->w2.heap[k]? = w1.heap[k]?:=fun k hk=>by rw [hw2];exact setRow_other _ _ _ _ hk
  have e2:w2.os = w1.os/\w2.tape = w1.tape/\w2.output = w1.output/\w2.heap.size = w1.heap.size:=by rw [hw2];exact ⟨rfl,rfl,rfl,by simp⟩
  have bx2:Arr w2 b [.slice (some ⟨g,0,none⟩) L.length c,(.func (.func 14) #[] #[])] 46:=(o2 b (fun e=>hgb e.symm)).trans bx
  have HG:=Lib.hid HG2;have O2:=Lib.hid o2;have E2:=Lib.hid e2;have C3:=Lib.hid h4;have RS:=Lib.hid hRs;have HB:=Lib.hid h1'
  clear hw2 HG2 o2 e2 h4 hRs h1' h2 h5 h6 OW bx
  have c2:w2.cell? ⟨b,0,none⟩ = some (.slice (some ⟨g,0,none⟩) L.length c):=bx2.cell rfl
  have f2:w2.frozen? ⟨b,0,none⟩ = false:=bx2.frozen 0
  go_wp2_with (at_builtin;refine qci _ rfl _ 44 rfl _ rfl (hR _) ?_)
  rw [setCell_eq_setRow w2 b 0 _ _ _ _ bx2]
  go_wp2_with fail
  go_ret
  have o6:∀ k,k ≠ b->(w2.setRow b #[.slice (some ⟨g,0,none⟩) 0 c,(.func (.func 14) #[] #[])]).heap[k]? = w2.heap[k]?:=fun k hk=>setRow_other _ _ _ _ hk
  refine ⟨_,.slice (some ⟨g,0,none⟩) 0 c,rfl,qg O1.out (fun k e=>?_),⟨bx2.row (cs':=[.slice (some ⟨g,0,none⟩) 0 c,(.func (.func 14) #[] #[])]),⟨rfl,.inr ⟨g,c,R,rfl,HB.out,(o6 g hgb).trans HG.out,Nat.zero_le _,C3.out,RS.out,by simp [flG]⟩⟩,fun e=>hgb (by simpa [Value.ownBlock] using e),List.Pairwise.nil,fun y hy=>by simp at hy⟩,?_⟩
  ·have:=(O1.out.lt k e).1
   exact (o6 k (by omega)).trans (O2.out k (by omega))
  ·exact ⟨E2.out.1.trans B1.out.os,E2.out.2.1.trans B1.out.tape,E2.out.2.2.1.trans B1.out.output,by have:=E2.out.2.2.2;simp;omega,fun k hk h1 h2=>((o6 k h1).trans (O2.out k (fun e=>h2 (by rw [e];rfl)))).trans (B1.out.block k hk),fun k e=>.inl (by simpa [Value.ownBlock] using e)⟩
end Go.Proofs.Ytcdclihinmdgiaa.lst
