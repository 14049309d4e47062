import Derived.Test.YtcdclihinmdgiaaZ04
import Derived.Test.YtcdclihinmdgiaaZ16
import Derived.Test.YtcdclihinmdgiaaZ13
import Derived.Test.YtcdclihinmdgiaaZ07
import Derived.Test.YtcdclihinmdgiaaZ05
import Derived.Lib.Bytealg
import Derived.Laws.StandIn
namespace Go.Proofs.Ytcdclihinmdgiaa.mk
open Go.ChangeShapes Go.WideShapes Go.ChangeAt Go.RowKit
open mem ints arr pm permOk permOf inv fns sf gl
set_option linter.unusedVariables false
set_option maxRecDepth 100000
theorem _root_.Go.Proofs.Ytcdclihinmdgiaa.mem.Row.one {w:World} {lo hi g n:Nat} {xs:List Value} (h:Row w lo hi (some ⟨g,0,none⟩) n xs) (hg:g < w.heap.size):Row w g (g + 1) (some ⟨g,0,none⟩) n xs :=
 ⟨h.1,hg,fun hn=>by
  obtain ⟨g',o',e,_,_,hc⟩:=h.2.2 hn
  injection e with e;injection e with e1 e2 e3
  subst e1;subst e2
  exact ⟨_,_,rfl,Nat.le_refl _,Nat.lt_succ_self _,hc⟩⟩
theorem qvs {w w':World} {base B:Nat} {e:TypeId} {g n c:Nat} {xs:List Value} (h:w.ownsRow base e 1 (.slice (some ⟨g,0,none⟩) n c) n xs) (hb:Below B w w') (hB:g < B):w'.ownsRow base e 1 (.slice (some ⟨g,0,none⟩) n c) n xs:=by
 refine ⟨h.1,?_⟩
 rcases h.2 with ⟨h0,_⟩ | ⟨g',cap,cur,q1,q2,q3,q4⟩
 ·exact absurd h0 (by simp)
 ·refine .inr ⟨g',cap,cur,q1,q2,?_,q4⟩
  injection q1 with q1 _ _;injection q1 with q1;injection q1 with q1 _ _
  subst q1
  rw [hb.block _ hB];exact q3
theorem qsp {w w':World} {base:Nat} {e:TypeId} {size n:Nat} {v:Value} {xs:List Value} {lo hi k:Nat} {A:Option Addr} {ys:List Value} (_:w.ownsRow base e size v n xs) (hg:w.grownBy w' v.ownBlock)
  (h:Row w lo hi A k ys) (hf:∀ b,v.ownBlock = some b->b < lo\/hi<=b):Row w' lo hi A k ys:=by
 refine ⟨h.1,Nat.le_trans h.2.1 hg.size,fun hn=>?_⟩
 obtain ⟨g,off,e,h1,h2,hc⟩:=h.2.2 hn
 refine ⟨g,off,e,h1,h2,fun j hj=>?_⟩
 have hne:some g ≠ v.ownBlock:=fun q=>by rcases hf g q.symm with h | h <;> omega
 have hb:=hg.block g (by have:=h.2.1;omega) hne
 obtain ⟨a,b⟩:=hc j hj
 exact ⟨by rw [<-a];exact World.cell?_of_block (a:=⟨g,off + j,none⟩) hb,by rw [<-b];simp only [World.frozen?,hb]⟩
theorem mk3 {w:World} {lo:Nat} {A B:Option Addr} {n m c d l1 h1 l2 h2:Nat} {r u:List Int} (a:Row w l1 h1 A n (V r)) (b:Row w l2 h2 B m (V u)) (hc:n<=c) (hd:m<=d) (q1:lo<=l1) (q2:lo<=l2) (hx:h1<=l2\/h2<=l1) :
  Svl w lo w.heap.size (.agg #[.slice A n c,.slice B m d]) r u :=
 ⟨A,n,c,B,m,d,l1,h1,l2,h2,rfl,a,b,hc,hd,q1,a.2.1,q2,b.2.1,hx,Nat.le_refl _⟩
set_option maxHeartbeats 4000000 in
theorem qmb (v:Value) (r u:List Int) (N hi:Nat) (w:World) (hx:Srd w hi v r u) (hs:Sf N r u) :
  Calls sqp.prog 50 #[v] w fun e w'=>∃ g,e = .returned g/\Svl w' w.heap.size w'.heap.size g r (thn r u)/\Below w.heap.size w w':=by
 obtain ⟨i0,hi0,hz0,hz1,hz2⟩:=info_parts qeo
 have HX:=Lib.hid hx;clear hx
 have HS:=Lib.hid hs;clear hs
 obtain ⟨P,n,c,Q,m,d,rfl,q1,q2,e1,e2,ht,HR⟩:=HX.out.open
 have RU:Hid (r.length = u.length):=Lib.hid (by rw [HS.out.lr,HS.out.lu])
 obtain rfl:n = N:=by rw [<-q1];exact HS.out.lr
 have hmn:m = n:=by rw [<-q1,<-q2];exact RU.out.symm
 subst hmn
 have hN24:m<=24:=by have:=HS.out.r.len;rw [HS.out.lr] at this;omega
 have hN0:0 < m:=HS.out.pos
 have Q1:=Lib.hid q1;have Q2:=Lib.hid q2;clear q1 q2
 clear HR
 go_enter sqp.func50,sqp.ntmps50
 go_wp2_with fail
 have A0:=Lib.hid ((Arr.new w [.slice P m c,.slice Q m d] 32 rfl).alloc (.cells #[.slice none 0 0,.slice none 0 0] 32))
 have A1:=Lib.hid (Arr.new (w.alloc (.cells #[.slice P m c,.slice Q m d] 32)) [.slice none 0 0,.slice none 0 0] 32 rfl)
 have B1:=Lib.hid (((Below.refl w.heap.size w).alloc (Nat.le_refl _) (.cells #[.slice P m c,.slice Q m d] 32)).alloc (by simp) (.cells #[.slice none 0 0,.slice none 0 0] 32))
 have es:((w.alloc (.cells #[.slice P m c,.slice Q m d] 32)).alloc (.cells #[.slice none 0 0,.slice none 0 0] 32)).heap.size = w.heap.size + 2:=by simp
 rw [show (w.alloc (.cells #[.slice P m c,.slice Q m d] 32)).heap.size = w.heap.size + 1 by simp] at A1
 have X1:Hid (Srd ((w.alloc (.cells #[.slice P m c,.slice Q m d] 32)).alloc (.cells #[.slice none 0 0,.slice none 0 0] 32)) hi (.agg #[.slice P m c,.slice Q m d]) r u):=Lib.hid (HX.out.keep (B1.out.mono ht) (Nat.le_refl _))
 generalize (w.alloc (.cells #[.slice P m c,.slice Q m d] 32)).alloc (.cells #[.slice none 0 0,.slice none 0 0] 32) = w1 at *
 refine wp_region_held_drew (S:=Hld (w.heap.size + 1) w1.heap.size w1 [(w.heap.size,[.slice P m c,.slice Q m d])]) (by kernel_rfl) ((Hld.qa6 A0.out).lower (by omega)) (fun hHeld=>?_)
 have b1:Below w1.heap.size w1 w1.drew:=⟨rfl,rfl,rfl,Nat.le_refl _,fun _ _=>rfl⟩
 generalize w1.drew = w2 at *
 have s2:=b1.size;replace X1:=Lib.hid (X1.out.keep b1 X1.out.top);replace B1:=Lib.hid (B1.out.trans (b1.mono B1.out.size))
 replace A1:=Lib.hid (A1.out.keep b1 A1.out.lt);clear b1 A0
 refine wpAnyH_take (i:=1) (v:=.pointer (some ⟨w.heap.size,0,none⟩)) rfl (by kernel_rfl) (by kernel_rfl) (by kernel_rfl) (fun _ _ _ h=>h) (Or.inl ⟨by rfl,fun w hSw=>by go_simp⟩) hHeld ?_
 refine wpAnyH_take (i:=4) (v:=.pointer (some ⟨w.heap.size,0,none⟩)) rfl (by kernel_rfl) (by kernel_rfl) (by kernel_rfl) (fun _ _ _ h=>h) (Or.inl ⟨by rfl,fun w hSw=>by go_simp⟩) hHeld ?_
 refine wpAnyH_take (i:=6) (v:=.pointer (some ⟨w.heap.size,1,none⟩)) rfl (by kernel_rfl) (by kernel_rfl) (by kernel_rfl) (fun _ _ _ h=>h) (Or.inl ⟨by rfl,fun w hSw=>by go_simp⟩) hHeld ?_
 refine wpAnyH_take (i:=2) (v:=.slice P m c) rfl (by kernel_rfl) (by kernel_rfl) (by kernel_rfl) (fun _ _ _ h=>h) (Or.inl ⟨by rfl,fun w hSw=>by have:=hSw.c0;go_simp⟩) hHeld ?_
 refine wpAnyH_take (i:=5) (v:=.slice P m c) rfl (by kernel_rfl) (by kernel_rfl) (by kernel_rfl) (fun _ _ _ h=>h) (Or.inl ⟨by rfl,fun w hSw=>by have:=hSw.c0;go_simp⟩) hHeld ?_
 refine wpAnyH_take (i:=7) (v:=.slice Q m d) rfl (by kernel_rfl) (by kernel_rfl) (by kernel_rfl) (fun _ _ _ h=>h) (Or.inl ⟨by rfl,fun w hSw=>by have:=hSw.c1;go_simp⟩) hHeld ?_
 refine wpAnyH_ready (rs:=[0]) (by kernel_rfl) (by simp) (AllReadyH.cons rfl (fun K hK=>?_) AllReadyH.nil)
 go_simp
 have b1:Below w2.heap.size w2 (w2.alloc (.cells #[] 3)):=(Below.refl _ _).alloc (Nat.le_refl _) _
 have o3:=(gy.empty w2).own
 have s_1:w2.heap.size + 1 = (w2.alloc (.cells #[] 3)).heap.size:=by simp
 replace X1:=Lib.hid (X1.out.keep b1 X1.out.top);replace B1:=Lib.hid (B1.out.trans (b1.mono B1.out.size))
 replace A1:=Lib.hid (A1.out.keep b1 A1.out.lt)
 have hHeld2:=hHeld.later b1 (by omega);clear hHeld b1
 refine hK.out _ _ hHeld2 (fun hHeld=>?_)
 clear hK K hHeld2
 generalize w2.alloc (.cells #[] 3) = v1 at *
 have sE:w2.heap.size < v1.heap.size:=by omega
 have O3:=Lib.hid o3;clear o3
 refine wpAnyH_ready (rs:=[3]) (by kernel_rfl) (by simp) (AllReadyH.cons rfl (fun K hK=>?_) AllReadyH.nil)
 obtain ⟨P0,o0,hP⟩:∃ g o,P = some ⟨g,o,none⟩:=by
  obtain ⟨g,off,q,_⟩:=(Srd.fst X1.out).2.2 hN0
  exact ⟨g,off,q⟩
 subst hP
 have hnews:∀ (j:Nat) (q:Value),(V r)[j]? = some q->v1.cell? ((⟨P0,o0,none⟩:Addr).add j) = some q:=fun j q hq=>by
  have hj:j < m:=by have:=(List.getElem?_eq_some_iff.1 hq).1;rw [q8,Q1.out] at this;exact this
  obtain ⟨g,off,u',e,_,h1,h2⟩:=(Srd.fst X1.out).at_ hj
  injection e with e;injection e with e1 e2 e3
  subst e1;subst e2
  rw [h1] at hq
  have:(⟨P0,o0,none⟩:Addr).add j = ⟨P0,o0 + j,none⟩:=by simp [Addr.add]
  rw [this,h2,<-hq]
 have hws:w2.heap.size<=v1.heap.size:=by omega
 refine step_append_lies v1 rfl _ _ 30 rfl w2.heap.size 3 i0 _ 1 8 sqp.underlying30 hi0 hz0 hz1 hz2 rfl (by decide) _ 0 [] rfl O3.out ⟨P0,o0,none⟩ m c (V r) rfl (by rw [q8,Q1.out,Nat.mul_one]) hnews (fun q hq=>by obtain ⟨z,_,rfl⟩:=List.mem_map.1 hq;rfl) hN0 (by unfold maxLen;omega) (by omega) hws _ rfl ?_
 intro g3 c3 v2 ho hg hat hlt
 clear hnews
 have b2:Below w2.heap.size v1 v2:=own_below O3.out hg (Nat.le_refl _) hws
 rw [Nat.zero_add,List.nil_append] at ho
 rw [Nat.zero_add]
 have hatg:g3 = w2.heap.size\/g3 = v1.heap.size:=by
  rcases hat with h | h
  ·have h':some w2.heap.size = some g3:=h
   injection h' with h'
   exact .inl h'.symm
  ·exact .inr h
 have hHeld2:=Hld.qkr hHeld b2 (by omega) (by omega);clear hHeld
 replace X1:=Lib.hid (X1.out.keep (b2.mono (by have:=X1.out.top;have:=HX.out.top;omega)) (Nat.le_refl _))
 replace B1:=Lib.hid (B1.out.trans (b2.mono (by omega)))
 replace A1:=Lib.hid (A1.out.keep b2 (by omega))
 have R4:=Lib.hid ((Row.yu ho).one hlt)
 have hc4:=(um ho).2
 have s_2:=b2.size
 clear ho hg hat b2 O3
 refine hK.out _ _ hHeld2 (fun hHeld=>?_)
 clear hK K hHeld2
 refine wpAnyH_ready (rs:=[8]) (by kernel_rfl) (by simp) (AllReadyH.cons rfl (fun K hK=>?_) AllReadyH.nil)
 go_simp
 refine (qfz (some ⟨P0,o0,none⟩) m c Q m d r u _ _ _ (Srd.fst X1.out) (Srd.snd X1.out) HS.out.r rfl).mono ?_
 rintro e v3 ⟨v6,rfl,o6,b1⟩
 have hl:(thn r u).length = m:=by rw [jo,Q1.out]
 rw [hl] at o6
 obtain ⟨P6,c6,rfl⟩:=za o6
 have hc6:=(um o6).2
 clear hl
 have s_3:=b1.size
 replace X1:=Lib.hid (X1.out.keep b1 X1.out.top);replace B1:=Lib.hid (B1.out.trans (b1.mono B1.out.size))
 replace A1:=Lib.hid (A1.out.keep b1 A1.out.lt)
 replace R4:=Lib.hid (R4.out.keep b1 R4.out.2.1)
 have R6:=Lib.hid (Row.yu o6);clear o6
 go_wp2_with fail
 have hHeld2:=hHeld.later b1 (by omega);clear b1 hHeld
 refine hK.out _ _ hHeld2 (fun hHeld=>?_)
 clear hK K hHeld2
 refine wpAnyH_ready (rs:=[9]) (by kernel_rfl) (by simp) (AllReadyH.cons rfl (fun K hK=>?_) AllReadyH.nil)
 refine kr rfl 32 _ rfl [(0,.slice (some ⟨g3,0,none⟩) m c3),(1,.slice P6 m c6)] rfl #[.slice (some ⟨g3,0,none⟩) m c3,.slice P6 m c6] (qcn _ _ _ _ _ _) ?_
 refine hK.out _ _ hHeld (fun hHeld2=>?_)
 clear hK K hHeld
 refine wpAnyH_ready (rs:=[10]) (by kernel_rfl) (by simp) (AllReadyH.cons rfl (fun K hK=>?_) AllReadyH.nil)
 refine ql rfl 32 _ _ rfl (w.heap.size + 1) #[.slice (some ⟨g3,0,none⟩) m c3,.slice P6 m c6] rfl rfl 32 #[.slice none 0 0,.slice none 0 0] A1.out yj rfl (by simp [Value.oneCell']) ?_
 refine hK.out _ _ (hHeld2.other (Nat.le_refl _) (by simp) _) (fun hHeld=>?_)
 clear hK K hHeld2 hHeld
 refine wpAnyH_done (by kernel_rfl) ?_ _
 go_wp2_with fail
 exact bodyPost_ret (v:=.agg #[.slice (some ⟨g3,0,none⟩) m c3,.slice P6 m c6]) (results_cell_row rfl _ _ (w.heap.size + 1) 32 #[.slice (some ⟨g3,0,none⟩) m c3,.slice P6 m c6] (0,0) _ rfl A1.out.row sqp.underlying32 rfl yj) rfl (by
  have m2:Svl v3 (w.heap.size + 2) v3.heap.size (.agg #[.slice (some ⟨g3,0,none⟩) m c3,.slice P6 m c6]) r (thn r u) :=
   mk3 R4.out R6.out hc4 hc6 (by omega) (by omega) (by first | (left;omega) | (right;omega) | omega)
  have:=Svl.row m2 (g:=w.heap.size + 1) (by omega) #[.slice (some ⟨g3,0,none⟩) m c3,.slice P6 m c6]
  exact ⟨_,rfl,(by simpa using this.later (by omega)),below_setRow B1.out (by omega) _⟩)
set_option maxHeartbeats 4000000 in
theorem qpp (v:Value) (r u:List Int) (N hi:Nat) (w:World) (hx:Srd w hi v r u) (hs:Sf N r u) :
  Calls sqp.prog 52 #[v] w fun e w'=>∃ g,e = .returned g/\Svl w' w.heap.size w'.heap.size g u (Inv r)/\Below w.heap.size w w':=by
 obtain ⟨i0,hi0,hz0,hz1,hz2⟩:=info_parts qeo
 have HX:=Lib.hid hx;clear hx
 have HS:=Lib.hid hs;clear hs
 obtain ⟨P,n,c,Q,m,d,rfl,q1,q2,e1,e2,ht,HR⟩:=HX.out.open
 have RU:Hid (r.length = u.length):=Lib.hid (by rw [HS.out.lr,HS.out.lu])
 obtain rfl:n = N:=by rw [<-q1];exact HS.out.lr
 have hmn:m = n:=by rw [<-q1,<-q2];exact RU.out.symm
 subst hmn
 have hN24:m<=24:=by have:=HS.out.r.len;rw [HS.out.lr] at this;omega
 have hN0:0 < m:=HS.out.pos
 have Q1:=Lib.hid q1;have Q2:=Lib.hid q2;clear q1 q2
 clear HR
 go_enter sqp.func52,sqp.ntmps52
 go_wp2_with fail
 have A0:=Lib.hid ((Arr.new w [.slice P m c,.slice Q m d] 32 rfl).alloc (.cells #[.slice none 0 0,.slice none 0 0] 32))
 have A1:=Lib.hid (Arr.new (w.alloc (.cells #[.slice P m c,.slice Q m d] 32)) [.slice none 0 0,.slice none 0 0] 32 rfl)
 have B1:=Lib.hid (((Below.refl w.heap.size w).alloc (Nat.le_refl _) (.cells #[.slice P m c,.slice Q m d] 32)).alloc (by simp) (.cells #[.slice none 0 0,.slice none 0 0] 32))
 have es:((w.alloc (.cells #[.slice P m c,.slice Q m d] 32)).alloc (.cells #[.slice none 0 0,.slice none 0 0] 32)).heap.size = w.heap.size + 2:=by simp
 rw [show (w.alloc (.cells #[.slice P m c,.slice Q m d] 32)).heap.size = w.heap.size + 1 by simp] at A1
 have X1:Hid (Srd ((w.alloc (.cells #[.slice P m c,.slice Q m d] 32)).alloc (.cells #[.slice none 0 0,.slice none 0 0] 32)) hi (.agg #[.slice P m c,.slice Q m d]) r u):=Lib.hid (HX.out.keep (B1.out.mono ht) (Nat.le_refl _))
 generalize (w.alloc (.cells #[.slice P m c,.slice Q m d] 32)).alloc (.cells #[.slice none 0 0,.slice none 0 0] 32) = w1 at *
 refine wp_region_held_drew (S:=Hld (w.heap.size + 1) w1.heap.size w1 [(w.heap.size,[.slice P m c,.slice Q m d])]) (by kernel_rfl) ((Hld.qa6 A0.out).lower (by omega)) (fun hHeld=>?_)
 have b1:Below w1.heap.size w1 w1.drew:=⟨rfl,rfl,rfl,Nat.le_refl _,fun _ _=>rfl⟩
 generalize w1.drew = w2 at *
 have s2:=b1.size;replace X1:=Lib.hid (X1.out.keep b1 X1.out.top);replace B1:=Lib.hid (B1.out.trans (b1.mono B1.out.size))
 replace A1:=Lib.hid (A1.out.keep b1 A1.out.lt);clear b1 A0
 refine wpAnyH_take (i:=1) (v:=.pointer (some ⟨w.heap.size,1,none⟩)) rfl (by kernel_rfl) (by kernel_rfl) (by kernel_rfl) (fun _ _ _ h=>h) (Or.inl ⟨by rfl,fun w hSw=>by go_simp⟩) hHeld ?_
 refine wpAnyH_take (i:=4) (v:=.pointer (some ⟨w.heap.size,0,none⟩)) rfl (by kernel_rfl) (by kernel_rfl) (by kernel_rfl) (fun _ _ _ h=>h) (Or.inl ⟨by rfl,fun w hSw=>by go_simp⟩) hHeld ?_
 refine wpAnyH_take (i:=2) (v:=.slice Q m d) rfl (by kernel_rfl) (by kernel_rfl) (by kernel_rfl) (fun _ _ _ h=>h) (Or.inl ⟨by rfl,fun w hSw=>by have:=hSw.c1;go_simp⟩) hHeld ?_
 refine wpAnyH_take (i:=5) (v:=.slice P m c) rfl (by kernel_rfl) (by kernel_rfl) (by kernel_rfl) (fun _ _ _ h=>h) (Or.inl ⟨by rfl,fun w hSw=>by have:=hSw.c0;go_simp⟩) hHeld ?_
 refine wpAnyH_ready (rs:=[0]) (by kernel_rfl) (by simp) (AllReadyH.cons rfl (fun K hK=>?_) AllReadyH.nil)
 go_simp
 have b1:Below w2.heap.size w2 (w2.alloc (.cells #[] 3)):=(Below.refl _ _).alloc (Nat.le_refl _) _
 have o3:=(gy.empty w2).own
 have s_1:w2.heap.size + 1 = (w2.alloc (.cells #[] 3)).heap.size:=by simp
 replace X1:=Lib.hid (X1.out.keep b1 X1.out.top);replace B1:=Lib.hid (B1.out.trans (b1.mono B1.out.size))
 replace A1:=Lib.hid (A1.out.keep b1 A1.out.lt)
 have hHeld2:=hHeld.later b1 (by omega);clear hHeld b1
 refine hK.out _ _ hHeld2 (fun hHeld=>?_)
 clear hK K hHeld2
 generalize w2.alloc (.cells #[] 3) = v1 at *
 have sE:w2.heap.size < v1.heap.size:=by omega
 have O3:=Lib.hid o3;clear o3
 refine wpAnyH_ready (rs:=[3]) (by kernel_rfl) (by simp) (AllReadyH.cons rfl (fun K hK=>?_) AllReadyH.nil)
 obtain ⟨P0,o0,hP⟩:∃ g o,Q = some ⟨g,o,none⟩:=by
  obtain ⟨g,off,q,_⟩:=(Srd.snd X1.out).2.2 hN0
  exact ⟨g,off,q⟩
 subst hP
 have hnews:∀ (j:Nat) (q:Value),(V u)[j]? = some q->v1.cell? ((⟨P0,o0,none⟩:Addr).add j) = some q:=fun j q hq=>by
  have hj:j < m:=by have:=(List.getElem?_eq_some_iff.1 hq).1;rw [q8,Q2.out] at this;exact this
  obtain ⟨g,off,u',e,_,h1,h2⟩:=(Srd.snd X1.out).at_ hj
  injection e with e;injection e with e1 e2 e3
  subst e1;subst e2
  rw [h1] at hq
  have:(⟨P0,o0,none⟩:Addr).add j = ⟨P0,o0 + j,none⟩:=by simp [Addr.add]
  rw [this,h2,<-hq]
 have hws:w2.heap.size<=v1.heap.size:=by omega
 refine step_append_lies v1 rfl _ _ 30 rfl w2.heap.size 3 i0 _ 1 8 sqp.underlying30 hi0 hz0 hz1 hz2 rfl (by decide) _ 0 [] rfl O3.out ⟨P0,o0,none⟩ m d (V u) rfl (by rw [q8,Q2.out,Nat.mul_one]) hnews (fun q hq=>by obtain ⟨z,_,rfl⟩:=List.mem_map.1 hq;rfl) hN0 (by unfold maxLen;omega) (by omega) hws _ rfl ?_
 intro g3 c3 v2 ho hg hat hlt
 clear hnews
 have b2:Below w2.heap.size v1 v2:=own_below O3.out hg (Nat.le_refl _) hws
 rw [Nat.zero_add,List.nil_append] at ho
 rw [Nat.zero_add]
 have hatg:g3 = w2.heap.size\/g3 = v1.heap.size:=by
  rcases hat with h | h
  ·have h':some w2.heap.size = some g3:=h
   injection h' with h'
   exact .inl h'.symm
  ·exact .inr h
 have hHeld2:=Hld.qkr hHeld b2 (by omega) (by omega);clear hHeld
 replace X1:=Lib.hid (X1.out.keep (b2.mono (by have:=X1.out.top;have:=HX.out.top;omega)) (Nat.le_refl _))
 replace B1:=Lib.hid (B1.out.trans (b2.mono (by omega)))
 replace A1:=Lib.hid (A1.out.keep b2 (by omega))
 have R4:=Lib.hid ((Row.yu ho).one hlt)
 have hc4:=(um ho).2
 have s_2:=b2.size
 clear ho hg hat b2 O3
 refine hK.out _ _ hHeld2 (fun hHeld=>?_)
 clear hK K hHeld2
 refine wpAnyH_ready (rs:=[6]) (by kernel_rfl) (by simp) (AllReadyH.cons rfl (fun K hK=>?_) AllReadyH.nil)
 go_simp
 refine (qa4 P m c r hi _ (Srd.fst X1.out) HS.out.r Q1.out).mono ?_
 rintro e v3 ⟨v6,rfl,o6,b1⟩
 have hl:(Inv r).length = m:=by rw [ze,Q1.out]
 rw [hl] at o6
 obtain ⟨P6,c6,rfl⟩:=za o6
 have hc6:=(um o6).2
 clear hl
 have s_3:=b1.size
 replace X1:=Lib.hid (X1.out.keep b1 X1.out.top);replace B1:=Lib.hid (B1.out.trans (b1.mono B1.out.size))
 replace A1:=Lib.hid (A1.out.keep b1 A1.out.lt)
 replace R4:=Lib.hid (R4.out.keep b1 R4.out.2.1)
 have R6:=Lib.hid (Row.yu o6);clear o6
 go_wp2_with fail
 have hHeld2:=hHeld.later b1 (by omega);clear b1 hHeld
 refine hK.out _ _ hHeld2 (fun hHeld=>?_)
 clear hK K hHeld2
 refine wpAnyH_ready (rs:=[7]) (by kernel_rfl) (by simp) (AllReadyH.cons rfl (fun K hK=>?_) AllReadyH.nil)
 refine kr rfl 32 _ rfl [(0,.slice (some ⟨g3,0,none⟩) m c3),(1,.slice P6 m c6)] rfl #[.slice (some ⟨g3,0,none⟩) m c3,.slice P6 m c6] (qcn _ _ _ _ _ _) ?_
 refine hK.out _ _ hHeld (fun hHeld2=>?_)
 clear hK K hHeld
 refine wpAnyH_ready (rs:=[8]) (by kernel_rfl) (by simp) (AllReadyH.cons rfl (fun K hK=>?_) AllReadyH.nil)
 refine ql rfl 32 _ _ rfl (w.heap.size + 1) #[.slice (some ⟨g3,0,none⟩) m c3,.slice P6 m c6] rfl rfl 32 #[.slice none 0 0,.slice none 0 0] A1.out yj rfl (by simp [Value.oneCell']) ?_
 refine hK.out _ _ (hHeld2.other (Nat.le_refl _) (by simp) _) (fun hHeld=>?_)
 clear hK K hHeld2 hHeld
 refine wpAnyH_done (by kernel_rfl) ?_ _
 go_wp2_with fail
 exact bodyPost_ret (v:=.agg #[.slice (some ⟨g3,0,none⟩) m c3,.slice P6 m c6]) (results_cell_row rfl _ _ (w.heap.size + 1) 32 #[.slice (some ⟨g3,0,none⟩) m c3,.slice P6 m c6] (0,0) _ rfl A1.out.row sqp.underlying32 rfl yj) rfl (by
  have m2:Svl v3 (w.heap.size + 2) v3.heap.size (.agg #[.slice (some ⟨g3,0,none⟩) m c3,.slice P6 m c6]) u (Inv r) :=
   mk3 R4.out R6.out hc4 hc6 (by omega) (by omega) (by first | (left;omega) | (right;omega) | omega)
  have:=Svl.row m2 (g:=w.heap.size + 1) (by omega) #[.slice (some ⟨g3,0,none⟩) m c3,.slice P6 m c6]
  exact ⟨_,rfl,(by simpa using this.later (by omega)),below_setRow B1.out (by omega) _⟩)
set_option maxHeartbeats 4000000 in
theorem qvt (v:Value) (r u:List Int) (N hi:Nat) (w:World) (hx:Srd w hi v r u) (hs:Sf N r u) :
  Calls sqp.prog 51 #[v] w fun e w'=>∃ g,e = .returned g/\Svl w' w.heap.size w'.heap.size g (Inv u) r/\Below w.heap.size w w':=by
 obtain ⟨i0,hi0,hz0,hz1,hz2⟩:=info_parts qeo
 have HX:=Lib.hid hx;clear hx
 have HS:=Lib.hid hs;clear hs
 obtain ⟨P,n,c,Q,m,d,rfl,q1,q2,e1,e2,ht,HR⟩:=HX.out.open
 have RU:Hid (r.length = u.length):=Lib.hid (by rw [HS.out.lr,HS.out.lu])
 obtain rfl:n = N:=by rw [<-q1];exact HS.out.lr
 have hmn:m = n:=by rw [<-q1,<-q2];exact RU.out.symm
 subst hmn
 have hN24:m<=24:=by have:=HS.out.r.len;rw [HS.out.lr] at this;omega
 have hN0:0 < m:=HS.out.pos
 have Q1:=Lib.hid q1;have Q2:=Lib.hid q2;clear q1 q2
 clear HR
 go_enter sqp.func51,sqp.ntmps51
 go_wp2_with fail
 have A0:=Lib.hid ((Arr.new w [.slice P m c,.slice Q m d] 32 rfl).alloc (.cells #[.slice none 0 0,.slice none 0 0] 32))
 have A1:=Lib.hid (Arr.new (w.alloc (.cells #[.slice P m c,.slice Q m d] 32)) [.slice none 0 0,.slice none 0 0] 32 rfl)
 have B1:=Lib.hid (((Below.refl w.heap.size w).alloc (Nat.le_refl _) (.cells #[.slice P m c,.slice Q m d] 32)).alloc (by simp) (.cells #[.slice none 0 0,.slice none 0 0] 32))
 have es:((w.alloc (.cells #[.slice P m c,.slice Q m d] 32)).alloc (.cells #[.slice none 0 0,.slice none 0 0] 32)).heap.size = w.heap.size + 2:=by simp
 rw [show (w.alloc (.cells #[.slice P m c,.slice Q m d] 32)).heap.size = w.heap.size + 1 by simp] at A1
 have X1:Hid (Srd ((w.alloc (.cells #[.slice P m c,.slice Q m d] 32)).alloc (.cells #[.slice none 0 0,.slice none 0 0] 32)) hi (.agg #[.slice P m c,.slice Q m d]) r u):=Lib.hid (HX.out.keep (B1.out.mono ht) (Nat.le_refl _))
 generalize (w.alloc (.cells #[.slice P m c,.slice Q m d] 32)).alloc (.cells #[.slice none 0 0,.slice none 0 0] 32) = w1 at *
 refine wp_region_held_drew (S:=Hld (w.heap.size + 1) w1.heap.size w1 [(w.heap.size,[.slice P m c,.slice Q m d])]) (by kernel_rfl) ((Hld.qa6 A0.out).lower (by omega)) (fun hHeld=>?_)
 have b1:Below w1.heap.size w1 w1.drew:=⟨rfl,rfl,rfl,Nat.le_refl _,fun _ _=>rfl⟩
 generalize w1.drew = w2 at *
 have s2:=b1.size;replace X1:=Lib.hid (X1.out.keep b1 X1.out.top);replace B1:=Lib.hid (B1.out.trans (b1.mono B1.out.size))
 replace A1:=Lib.hid (A1.out.keep b1 A1.out.lt);clear b1 A0
 refine wpAnyH_take (i:=0) (v:=.pointer (some ⟨w.heap.size,1,none⟩)) rfl (by kernel_rfl) (by kernel_rfl) (by kernel_rfl) (fun _ _ _ h=>h) (Or.inl ⟨by rfl,fun w hSw=>by go_simp⟩) hHeld ?_
 refine wpAnyH_take (i:=4) (v:=.pointer (some ⟨w.heap.size,0,none⟩)) rfl (by kernel_rfl) (by kernel_rfl) (by kernel_rfl) (fun _ _ _ h=>h) (Or.inl ⟨by rfl,fun w hSw=>by go_simp⟩) hHeld ?_
 refine wpAnyH_take (i:=1) (v:=.slice Q m d) rfl (by kernel_rfl) (by kernel_rfl) (by kernel_rfl) (fun _ _ _ h=>h) (Or.inl ⟨by rfl,fun w hSw=>by have:=hSw.c1;go_simp⟩) hHeld ?_
 refine wpAnyH_take (i:=5) (v:=.slice P m c) rfl (by kernel_rfl) (by kernel_rfl) (by kernel_rfl) (fun _ _ _ h=>h) (Or.inl ⟨by rfl,fun w hSw=>by have:=hSw.c0;go_simp⟩) hHeld ?_
 refine wpAnyH_ready (rs:=[2,3]) (by kernel_rfl) (by simp) (AllReadyH.cons rfl (fun K hK=>?_) (AllReadyH.cons rfl (fun K hK=>?_) AllReadyH.nil))
 ·go_simp
  refine (qa4 Q m d u hi _ (Srd.snd X1.out) HS.out.u Q2.out).mono ?_
  rintro e v1 ⟨v6,rfl,o6,b1⟩
  have hl:(Inv u).length = m:=by rw [ze,Q2.out]
  rw [hl] at o6
  obtain ⟨P6,c6,rfl⟩:=za o6
  have hc6:=(um o6).2
  clear hl
  have s_1:=b1.size
  replace X1:=Lib.hid (X1.out.keep b1 X1.out.top);replace B1:=Lib.hid (B1.out.trans (b1.mono B1.out.size))
  replace A1:=Lib.hid (A1.out.keep b1 A1.out.lt)
  have R6:=Lib.hid (Row.yu o6);clear o6
  go_wp2_with fail
  have hHeld2:=hHeld.later b1 (by omega);clear b1 hHeld
  refine hK.out _ _ hHeld2 (fun hHeld=>?_)
  clear hK K hHeld2
  refine wpAnyH_ready (rs:=[3]) (by kernel_rfl) (by simp) (AllReadyH.cons rfl (fun K hK=>?_) AllReadyH.nil)
  go_simp
  have b1:Below v1.heap.size v1 (v1.alloc (.cells #[] 3)):=(Below.refl _ _).alloc (Nat.le_refl _) _
  have o3:=(gy.empty v1).own
  have s_2:v1.heap.size + 1 = (v1.alloc (.cells #[] 3)).heap.size:=by simp
  replace X1:=Lib.hid (X1.out.keep b1 X1.out.top);replace B1:=Lib.hid (B1.out.trans (b1.mono B1.out.size))
  replace A1:=Lib.hid (A1.out.keep b1 A1.out.lt)
  replace R6:=Lib.hid (R6.out.keep b1 R6.out.2.1)
  have hHeld2:=hHeld.later b1 (by omega);clear hHeld b1
  refine hK.out _ _ hHeld2 (fun hHeld=>?_)
  clear hK K hHeld2
  generalize v1.alloc (.cells #[] 3) = v2 at *
  have sE:v1.heap.size < v2.heap.size:=by omega
  have O3:=Lib.hid o3;clear o3
  refine wpAnyH_ready (rs:=[6]) (by kernel_rfl) (by simp) (AllReadyH.cons rfl (fun K hK=>?_) AllReadyH.nil)
  obtain ⟨P0,o0,hP⟩:∃ g o,P = some ⟨g,o,none⟩:=by
   obtain ⟨g,off,q,_⟩:=(Srd.fst X1.out).2.2 hN0
   exact ⟨g,off,q⟩
  subst hP
  have hnews:∀ (j:Nat) (q:Value),(V r)[j]? = some q->v2.cell? ((⟨P0,o0,none⟩:Addr).add j) = some q:=fun j q hq=>by
   have hj:j < m:=by have:=(List.getElem?_eq_some_iff.1 hq).1;rw [q8,Q1.out] at this;exact this
   obtain ⟨g,off,u',e,_,h1,h2⟩:=(Srd.fst X1.out).at_ hj
   injection e with e;injection e with e1 e2 e3
   subst e1;subst e2
   rw [h1] at hq
   have:(⟨P0,o0,none⟩:Addr).add j = ⟨P0,o0 + j,none⟩:=by simp [Addr.add]
   rw [this,h2,<-hq]
  have hws:v1.heap.size<=v2.heap.size:=by omega
  refine step_append_lies v2 rfl _ _ 30 rfl v1.heap.size 3 i0 _ 1 8 sqp.underlying30 hi0 hz0 hz1 hz2 rfl (by decide) _ 0 [] rfl O3.out ⟨P0,o0,none⟩ m c (V r) rfl (by rw [q8,Q1.out,Nat.mul_one]) hnews (fun q hq=>by obtain ⟨z,_,rfl⟩:=List.mem_map.1 hq;rfl) hN0 (by unfold maxLen;omega) (by omega) hws _ rfl ?_
  intro g3 c3 v3 ho hg hat hlt
  clear hnews
  have b2:Below v1.heap.size v2 v3:=own_below O3.out hg (Nat.le_refl _) hws
  rw [Nat.zero_add,List.nil_append] at ho
  rw [Nat.zero_add]
  have hatg:g3 = v1.heap.size\/g3 = v2.heap.size:=by
   rcases hat with h | h
   ·have h':some v1.heap.size = some g3:=h
    injection h' with h'
    exact .inl h'.symm
   ·exact .inr h
  replace R6:=Lib.hid (qsp O3.out hg R6.out (fun b hb=>by have h':some v1.heap.size = some b:=hb;injection h' with h';omega))
  have hHeld2:=Hld.qkr hHeld b2 (by omega) (by omega);clear hHeld
  replace X1:=Lib.hid (X1.out.keep (b2.mono (by have:=X1.out.top;have:=HX.out.top;omega)) (Nat.le_refl _))
  replace B1:=Lib.hid (B1.out.trans (b2.mono (by omega)))
  replace A1:=Lib.hid (A1.out.keep b2 (by omega))
  have R4:=Lib.hid ((Row.yu ho).one hlt)
  have hc4:=(um ho).2
  have s_3:=b2.size
  clear ho hg hat b2 O3
  refine hK.out _ _ hHeld2 (fun hHeld=>?_)
  clear hK K hHeld2
  refine wpAnyH_ready (rs:=[7]) (by kernel_rfl) (by simp) (AllReadyH.cons rfl (fun K hK=>?_) AllReadyH.nil)
  refine kr rfl 32 _ rfl [(0,.slice P6 m c6),(1,.slice (some ⟨g3,0,none⟩) m c3)] rfl #[.slice P6 m c6,.slice (some ⟨g3,0,none⟩) m c3] (qcn _ _ _ _ _ _) ?_
  refine hK.out _ _ hHeld (fun hHeld2=>?_)
  clear hK K hHeld
  refine wpAnyH_ready (rs:=[8]) (by kernel_rfl) (by simp) (AllReadyH.cons rfl (fun K hK=>?_) AllReadyH.nil)
  refine ql rfl 32 _ _ rfl (w.heap.size + 1) #[.slice P6 m c6,.slice (some ⟨g3,0,none⟩) m c3] rfl rfl 32 #[.slice none 0 0,.slice none 0 0] A1.out yj rfl (by simp [Value.oneCell']) ?_
  refine hK.out _ _ (hHeld2.other (Nat.le_refl _) (by simp) _) (fun hHeld=>?_)
  clear hK K hHeld2 hHeld
  refine wpAnyH_done (by kernel_rfl) ?_ _
  go_wp2_with fail
  exact bodyPost_ret (v:=.agg #[.slice P6 m c6,.slice (some ⟨g3,0,none⟩) m c3]) (results_cell_row rfl _ _ (w.heap.size + 1) 32 #[.slice P6 m c6,.slice (some ⟨g3,0,none⟩) m c3] (0,0) _ rfl A1.out.row sqp.underlying32 rfl yj) rfl (by
   have m2:Svl v3 (w.heap.size + 2) v3.heap.size (.agg #[.slice P6 m c6,.slice (some ⟨g3,0,none⟩) m c3]) (Inv u) r :=
    mk3 R6.out R4.out hc6 hc4 (by omega) (by omega) (by first | (left;omega) | (right;omega) | omega)
   have:=Svl.row m2 (g:=w.heap.size + 1) (by omega) #[.slice P6 m c6,.slice (some ⟨g3,0,none⟩) m c3]
   exact ⟨_,rfl,(by simpa using this.later (by omega)),below_setRow B1.out (by omega) _⟩)
 ·go_simp
  have b1:Below w2.heap.size w2 (w2.alloc (.cells #[] 3)):=(Below.refl _ _).alloc (Nat.le_refl _) _
  have o3:=(gy.empty w2).own
  have s_1:w2.heap.size + 1 = (w2.alloc (.cells #[] 3)).heap.size:=by simp
  replace X1:=Lib.hid (X1.out.keep b1 X1.out.top);replace B1:=Lib.hid (B1.out.trans (b1.mono B1.out.size))
  replace A1:=Lib.hid (A1.out.keep b1 A1.out.lt)
  have hHeld2:=hHeld.later b1 (by omega);clear hHeld b1
  refine hK.out _ _ hHeld2 (fun hHeld=>?_)
  clear hK K hHeld2
  generalize w2.alloc (.cells #[] 3) = v1 at *
  have sE:w2.heap.size < v1.heap.size:=by omega
  have O3:=Lib.hid o3;clear o3
  refine wpAnyH_ready (rs:=[2]) (by kernel_rfl) (by simp) (AllReadyH.cons rfl (fun K hK=>?_) AllReadyH.nil)
  go_simp
  refine (qa4 Q m d u hi _ (Srd.snd X1.out) HS.out.u Q2.out).mono ?_
  rintro e v2 ⟨v6,rfl,o6,b1⟩
  have hl:(Inv u).length = m:=by rw [ze,Q2.out]
  rw [hl] at o6
  obtain ⟨P6,c6,rfl⟩:=za o6
  have hc6:=(um o6).2
  clear hl
  have s_2:=b1.size
  replace X1:=Lib.hid (X1.out.keep b1 X1.out.top);replace B1:=Lib.hid (B1.out.trans (b1.mono B1.out.size))
  replace A1:=Lib.hid (A1.out.keep b1 A1.out.lt)
  replace O3:=Lib.hid (qvs O3.out b1 (by have:=O3.out;omega))
  have R6:=Lib.hid (Row.yu o6);clear o6
  go_wp2_with fail
  have hHeld2:=hHeld.later b1 (by omega);clear b1 hHeld
  refine hK.out _ _ hHeld2 (fun hHeld=>?_)
  clear hK K hHeld2
  refine wpAnyH_ready (rs:=[6]) (by kernel_rfl) (by simp) (AllReadyH.cons rfl (fun K hK=>?_) AllReadyH.nil)
  obtain ⟨P0,o0,hP⟩:∃ g o,P = some ⟨g,o,none⟩:=by
   obtain ⟨g,off,q,_⟩:=(Srd.fst X1.out).2.2 hN0
   exact ⟨g,off,q⟩
  subst hP
  have hnews:∀ (j:Nat) (q:Value),(V r)[j]? = some q->v2.cell? ((⟨P0,o0,none⟩:Addr).add j) = some q:=fun j q hq=>by
   have hj:j < m:=by have:=(List.getElem?_eq_some_iff.1 hq).1;rw [q8,Q1.out] at this;exact this
   obtain ⟨g,off,u',e,_,h1,h2⟩:=(Srd.fst X1.out).at_ hj
   injection e with e;injection e with e1 e2 e3
   subst e1;subst e2
   rw [h1] at hq
   have:(⟨P0,o0,none⟩:Addr).add j = ⟨P0,o0 + j,none⟩:=by simp [Addr.add]
   rw [this,h2,<-hq]
  have hws:w2.heap.size<=v2.heap.size:=by omega
  refine step_append_lies v2 rfl _ _ 30 rfl w2.heap.size 3 i0 _ 1 8 sqp.underlying30 hi0 hz0 hz1 hz2 rfl (by decide) _ 0 [] rfl O3.out ⟨P0,o0,none⟩ m c (V r) rfl (by rw [q8,Q1.out,Nat.mul_one]) hnews (fun q hq=>by obtain ⟨z,_,rfl⟩:=List.mem_map.1 hq;rfl) hN0 (by unfold maxLen;omega) (by omega) hws _ rfl ?_
  intro g3 c3 v3 ho hg hat hlt
  clear hnews
  have b2:Below w2.heap.size v2 v3:=own_below O3.out hg (Nat.le_refl _) hws
  rw [Nat.zero_add,List.nil_append] at ho
  rw [Nat.zero_add]
  have hatg:g3 = w2.heap.size\/g3 = v2.heap.size:=by
   rcases hat with h | h
   ·have h':some w2.heap.size = some g3:=h
    injection h' with h'
    exact .inl h'.symm
   ·exact .inr h
  replace R6:=Lib.hid (qsp O3.out hg R6.out (fun b hb=>by have h':some w2.heap.size = some b:=hb;injection h' with h';omega))
  have hHeld2:=Hld.qkr hHeld b2 (by omega) (by omega);clear hHeld
  replace X1:=Lib.hid (X1.out.keep (b2.mono (by have:=X1.out.top;have:=HX.out.top;omega)) (Nat.le_refl _))
  replace B1:=Lib.hid (B1.out.trans (b2.mono (by omega)))
  replace A1:=Lib.hid (A1.out.keep b2 (by omega))
  have R4:=Lib.hid ((Row.yu ho).one hlt)
  have hc4:=(um ho).2
  have s_3:=b2.size
  clear ho hg hat b2 O3
  refine hK.out _ _ hHeld2 (fun hHeld=>?_)
  clear hK K hHeld2
  refine wpAnyH_ready (rs:=[7]) (by kernel_rfl) (by simp) (AllReadyH.cons rfl (fun K hK=>?_) AllReadyH.nil)
  refine kr rfl 32 _ rfl [(0,.slice P6 m c6),(1,.slice (some ⟨g3,0,none⟩) m c3)] rfl #[.slice P6 m c6,.slice (some ⟨g3,0,none⟩) m c3] (qcn _ _ _ _ _ _) ?_
  refine hK.out _ _ hHeld (fun hHeld2=>?_)
  clear hK K hHeld
  refine wpAnyH_ready (rs:=[8]) (by kernel_rfl) (by simp) (AllReadyH.cons rfl (fun K hK=>?_) AllReadyH.nil)
  refine ql rfl 32 _ _ rfl (w.heap.size + 1) #[.slice P6 m c6,.slice (some ⟨g3,0,none⟩) m c3] rfl rfl 32 #[.slice none 0 0,.slice none 0 0] A1.out yj rfl (by simp [Value.oneCell']) ?_
  refine hK.out _ _ (hHeld2.other (Nat.le_refl _) (by simp) _) (fun hHeld=>?_)
  clear hK K hHeld2 hHeld
  refine wpAnyH_done (by kernel_rfl) ?_ _
  go_wp2_with fail
  exact bodyPost_ret (v:=.agg #[.slice P6 m c6,.slice (some ⟨g3,0,none⟩) m c3]) (results_cell_row rfl _ _ (w.heap.size + 1) 32 #[.slice P6 m c6,.slice (some ⟨g3,0,none⟩) m c3] (0,0) _ rfl A1.out.row sqp.underlying32 rfl yj) rfl (by
   have m2:Svl v3 (w.heap.size + 2) v3.heap.size (.agg #[.slice P6 m c6,.slice (some ⟨g3,0,none⟩) m c3]) (Inv u) r :=
    mk3 R6.out R4.out hc6 hc4 (by omega) (by omega) (by first | (left;omega) | (right;omega) | omega)
   have:=Svl.row m2 (g:=w.heap.size + 1) (by omega) #[.slice P6 m c6,.slice (some ⟨g3,0,none⟩) m c3]
   exact ⟨_,rfl,(by simpa using this.later (by omega)),below_setRow B1.out (by omega) _⟩)
end Go.Proofs.Ytcdclihinmdgiaa.mk

namespace Go.Proofs.Ytcdclihinmdgiaa.lw
open Go.ChangeShapes Go.WideShapes Go.ChangeAt Go.RowKit
open mem ints arr pm permOk permOf inv fns sf gl mk
set_option linter.unusedVariables false
set_option maxRecDepth 100000
end Go.Proofs.Ytcdclihinmdgiaa.lw

namespace Go.Proofs.Ytcdclihinmdgiaa.wd
open Go.ChangeShapes Go.WideShapes Go.ChangeAt Go.RowKit
open mem ints arr pm
set_option linter.unusedVariables false
set_option maxRecDepth 100000
theorem qx {a b:Bool} (h:a = b):Ending.returned (.bool a) = .returned (.bool b):=by rw [h]
def num (c:UInt8):Int:=if c.toNat = 84 then 0 else if c.toNat = 116 then 1 else if c.toNat = 83 then 2 else if c.toNat = 115 then 3 else -1
end Go.Proofs.Ytcdclihinmdgiaa.wd
