import Derived.Test.YtcdclihinmdgiaaZ04
import Derived.Test.YtcdclihinmdgiaaZ17
import Derived.Test.YtcdclihinmdgiaaZ16
import Derived.Test.YtcdclihinmdgiaaZ11
import Derived.Shelf.Abstract
import Derived.StillTailTactics
import Derived.Deep.CutRange
namespace Go.Proofs.Ytcdclihinmdgiaa.la
open Go.ChangeShapes Go.WideShapes Go.ChangeAt Go.RowKit
open mem ints arr pm permOk permOf inv fns sf gl mk lw
set_option linter.unusedVariables false
set_option maxRecDepth 100000
set_option maxHeartbeats 8000000 in
theorem q4k (r u:List Int) (n:Nat) (w:World) (hs:Sf n r u) :
  Calls sqp.prog 78 #[.agg (V (gl (ext r) (ext u) n)).toArray] w fun e w'=>e = .returned (.agg (V (gl (ext r) (ext (thn (Inv r) u)) n)).toArray)/\Below w.heap.size w w':=by
 have HS:=Lib.hid hs
 have RS:=Lib.hid hs.r.sq;have US:=Lib.hid hs.u.sq
 have ER:=Lib.hid (qcl hs.r);have EU:=Lib.hid (qcl hs.u)
 clear hs
 go_enter sqp.func78,sqp.ntmps78
 go_wp2_with fail
 generalize hw1:(w.alloc (.cells (V (gl (ext r) (ext u) n)).toArray 43)).alloc (.cells #[.int .i64 0,.int .i64 0,.int .i64 0,.int .i64 0,.int .i64 0,.int .i64 0,.int .i64 0,.int .i64 0,.int .i64 0,.int .i64 0,.int .i64 0,.int .i64 0,.int .i64 0,.int .i64 0,.int .i64 0,.int .i64 0,.int .i64 0,.int .i64 0,.int .i64 0,.int .i64 0,.int .i64 0,.int .i64 0,.int .i64 0,.int .i64 0,.int .i64 0,.int .i64 0,.int .i64 0,.int .i64 0,.int .i64 0,.int .i64 0,.int .i64 0,.int .i64 0,.int .i64 0,.int .i64 0,.int .i64 0,.int .i64 0,.int .i64 0,.int .i64 0,.int .i64 0,.int .i64 0,.int .i64 0,.int .i64 0,.int .i64 0,.int .i64 0,.int .i64 0,.int .i64 0,.int .i64 0,.int .i64 0,.int .i64 0] 43) = w1
 have A0:Hid (Arr w1 w.heap.size (V (gl (ext r) (ext u) n)) 43):=Lib.hid (by rw [<-hw1];exact (Arr.new w _ _ rfl).alloc _)
 have A1:Hid (Arr w1 (w.heap.size + 1) (V qp) 43):=Lib.hid (by rw [<-hw1];exact Arr.new _ (V qp) _ (by simp))
 have B1:Hid (Below w.heap.size w w1):=Lib.hid (by rw [<-hw1];exact ((Below.refl _ _).alloc (Nat.le_refl _) _).alloc (by simp) _)
 have s1:w1.heap.size = w.heap.size + 2:=by rw [<-hw1];simp
 clear hw1
 refine wp_region_held_drew (S:=Hld w.heap.size w1.heap.size w1 [(w.heap.size,(V (gl (ext r) (ext u) n)))]) (by kernel_rfl) ((Hld.qa6 A0.out).lower (by omega)) (fun hHeld=>?_)
 have b1:Below w1.heap.size w1 w1.drew:=⟨rfl,rfl,rfl,Nat.le_refl _,fun _ _=>rfl⟩
 generalize w1.drew = w2 at *
 have s2:=b1.size
 replace A1:=Lib.hid (A1.out.keep b1 A1.out.lt)
 replace B1:=Lib.hid (B1.out.trans (b1.mono B1.out.size))
 clear b1 A0
 refine wpAnyH_take (i:=0) (v:=.pointer (some ⟨w.heap.size,0,none⟩)) rfl (by kernel_rfl) (by kernel_rfl) (by kernel_rfl) (fun _ _ _ h=>h) (Or.inl ⟨by rfl,fun w hSw=>by go_simp⟩) hHeld ?_
 refine wpAnyH_take (i:=2) (v:=.pointer (some ⟨w.heap.size,0,none⟩)) rfl (by kernel_rfl) (by kernel_rfl) (by kernel_rfl) (fun _ _ _ h=>h) (Or.inl ⟨by rfl,fun w hSw=>by go_simp⟩) hHeld ?_
 refine wpAnyH_take (i:=5) (v:=.pointer (some ⟨w.heap.size,24,none⟩)) rfl (by kernel_rfl) (by kernel_rfl) (by kernel_rfl) (fun _ _ _ h=>h) (Or.inl ⟨by rfl,fun w hSw=>by go_simp⟩) hHeld ?_
 refine wpAnyH_take (i:=8) (v:=.pointer (some ⟨w.heap.size,48,none⟩)) rfl (by kernel_rfl) (by kernel_rfl) (by kernel_rfl) (fun _ _ _ h=>h) (Or.inl ⟨by rfl,fun w hSw=>by go_simp⟩) hHeld ?_
 refine wpAnyH_take (i:=1) (v:=.agg (V (ext r)).toArray) rfl (by kernel_rfl) (by kernel_rfl) (by kernel_rfl) (fun _ _ _ h=>h) (yieldsIf_load_mid (by rfl) _ _ rfl (w.heap.size) 0 rfl (V (ext r)) _ (fun w h=>qae (qc _) h.fst) sqp.underlying41 rfl (qii (qc _))) hHeld ?_
 refine wpAnyH_take (i:=3) (v:=.agg (V (ext r)).toArray) rfl (by kernel_rfl) (by kernel_rfl) (by kernel_rfl) (fun _ _ _ h=>h) (yieldsIf_load_mid (by rfl) _ _ rfl (w.heap.size) 0 rfl (V (ext r)) _ (fun w h=>qae (qc _) h.fst) sqp.underlying41 rfl (qii (qc _))) hHeld ?_
 refine wpAnyH_take (i:=6) (v:=.agg (V (ext u)).toArray) rfl (by kernel_rfl) (by kernel_rfl) (by kernel_rfl) (fun _ _ _ h=>h) (yieldsIf_load_mid (by rfl) _ _ rfl (w.heap.size) 24 rfl (V (ext u)) _ (fun w h=>qj4 (qc _) (qc _) h.fst) sqp.underlying41 rfl (qii (qc _))) hHeld ?_
 refine wpAnyH_take (i:=9) (v:=.int .i64 n) rfl (by kernel_rfl) (by kernel_rfl) (by kernel_rfl) (fun _ _ _ h=>h) (Or.inl ⟨by rfl,fun w hSw=>by have:=qby (qc _) (qc _) hSw.fst;go_simp⟩) hHeld ?_
 refine wpAnyH_ready (rs:=[4]) (by kernel_rfl) (by simp) (AllReadyH.cons rfl (fun K hK=>?_) AllReadyH.nil)
 go_simp
 refine (qbz (ext r) _ RS.out).mono ?_
 rintro e w' ⟨rfl,b1⟩
 rw [ER.out]
 replace A1:=Lib.hid (A1.out.keep b1 A1.out.lt)
 replace B1:=Lib.hid (B1.out.trans (b1.mono B1.out.size))
 go_wp2_with fail
 have hHeld2:=hHeld.later b1 (by omega);clear b1 hHeld
 refine hK.out _ _ hHeld2 (fun hHeld=>?_)
 clear hK K hHeld2
 refine wpAnyH_ready (rs:=[7]) (by kernel_rfl) (by simp) (AllReadyH.cons rfl (fun K hK=>?_) AllReadyH.nil)
 go_simp
 refine (inv.qcx (ext (Inv r)) (ext u) _ (cu HS.out.r).sq US.out).mono ?_
 rintro e w' ⟨rfl,b1⟩
 rw [qra (cu HS.out.r) HS.out.u (by rw [ze,HS.out.lr,HS.out.lu])]
 replace A1:=Lib.hid (A1.out.keep b1 A1.out.lt)
 replace B1:=Lib.hid (B1.out.trans (b1.mono B1.out.size))
 go_wp2_with fail
 have hHeld2:=hHeld.later b1 (by omega);clear b1 hHeld
 refine hK.out _ _ hHeld2 (fun hHeld=>?_)
 clear hK K hHeld2
 refine wpAnyH_ready (rs:=[10]) (by kernel_rfl) (by simp) (AllReadyH.cons rfl (fun K hK=>?_) AllReadyH.nil)
 refine kr rfl 43 _ rfl [(0,.agg (V (ext r)).toArray),(1,.agg (V (ext (thn (Inv r) u))).toArray),(2,.int .i64 n)] rfl (V (gl (ext r) (ext (thn (Inv r) u)) n)).toArray (qbw (qc _) (qc _) n) ?_
 refine hK.out _ _ hHeld (fun hHeld2=>?_)
 clear hK K hHeld2
 refine wpAnyH_ready (rs:=[11]) (by kernel_rfl) (by simp) (AllReadyH.cons rfl (fun K hK=>?_) AllReadyH.nil)
 refine ql rfl 43 _ _ rfl (w.heap.size + 1) (V (gl (ext r) (ext (thn (Inv r) u)) n)).toArray rfl rfl 43 (V qp).toArray A1.out (zu (jg (qc _) (qc _) n)) (by simp [q8,jg,qc,qp]) (zy _) ?_
 refine hK.out _ _ (hHeld.other (by omega) (by simp) _) (fun hHeld2=>?_)
 clear hK K hHeld2
 refine wpAnyH_done (by kernel_rfl) ?_ _
 go_wp2_with fail
 exact bodyPost_ret (v:=.agg (V (gl (ext r) (ext (thn (Inv r) u)) n)).toArray) (results_cell_row rfl _ _ (w.heap.size + 1) 43 (V (gl (ext r) (ext (thn (Inv r) u)) n)).toArray (0,0) _ rfl A1.out.row sqp.underlying43 rfl (zu (jg (qc _) (qc _) n))) rfl ⟨rfl,below_setRow B1.out (by omega) _⟩
set_option maxHeartbeats 8000000 in
theorem q4l (r u:List Int) (n:Nat) (w:World) (hs:Sf n r u) :
  Calls sqp.prog 79 #[.agg (V (gl (ext r) (ext u) n)).toArray] w fun e w'=>e = .returned (.agg (V (gl (ext r) (ext (thn r u)) n)).toArray)/\Below w.heap.size w w':=by
 have HS:=Lib.hid hs
 have RS:=Lib.hid hs.r.sq;have US:=Lib.hid hs.u.sq
 have ER:=Lib.hid (qcl hs.r);have EU:=Lib.hid (qcl hs.u)
 clear hs
 go_enter sqp.func79,sqp.ntmps79
 go_wp2_with fail
 generalize hw1:(w.alloc (.cells (V (gl (ext r) (ext u) n)).toArray 43)).alloc (.cells #[.int .i64 0,.int .i64 0,.int .i64 0,.int .i64 0,.int .i64 0,.int .i64 0,.int .i64 0,.int .i64 0,.int .i64 0,.int .i64 0,.int .i64 0,.int .i64 0,.int .i64 0,.int .i64 0,.int .i64 0,.int .i64 0,.int .i64 0,.int .i64 0,.int .i64 0,.int .i64 0,.int .i64 0,.int .i64 0,.int .i64 0,.int .i64 0,.int .i64 0,.int .i64 0,.int .i64 0,.int .i64 0,.int .i64 0,.int .i64 0,.int .i64 0,.int .i64 0,.int .i64 0,.int .i64 0,.int .i64 0,.int .i64 0,.int .i64 0,.int .i64 0,.int .i64 0,.int .i64 0,.int .i64 0,.int .i64 0,.int .i64 0,.int .i64 0,.int .i64 0,.int .i64 0,.int .i64 0,.int .i64 0,.int .i64 0] 43) = w1
 have A0:Hid (Arr w1 w.heap.size (V (gl (ext r) (ext u) n)) 43):=Lib.hid (by rw [<-hw1];exact (Arr.new w _ _ rfl).alloc _)
 have A1:Hid (Arr w1 (w.heap.size + 1) (V qp) 43):=Lib.hid (by rw [<-hw1];exact Arr.new _ (V qp) _ (by simp))
 have B1:Hid (Below w.heap.size w w1):=Lib.hid (by rw [<-hw1];exact ((Below.refl _ _).alloc (Nat.le_refl _) _).alloc (by simp) _)
 have s1:w1.heap.size = w.heap.size + 2:=by rw [<-hw1];simp
 clear hw1
 refine wp_region_held_drew (S:=Hld w.heap.size w1.heap.size w1 [(w.heap.size,(V (gl (ext r) (ext u) n)))]) (by kernel_rfl) ((Hld.qa6 A0.out).lower (by omega)) (fun hHeld=>?_)
 have b1:Below w1.heap.size w1 w1.drew:=⟨rfl,rfl,rfl,Nat.le_refl _,fun _ _=>rfl⟩
 generalize w1.drew = w2 at *
 have s2:=b1.size
 replace A1:=Lib.hid (A1.out.keep b1 A1.out.lt)
 replace B1:=Lib.hid (B1.out.trans (b1.mono B1.out.size))
 clear b1 A0
 refine wpAnyH_take (i:=0) (v:=.pointer (some ⟨w.heap.size,0,none⟩)) rfl (by kernel_rfl) (by kernel_rfl) (by kernel_rfl) (fun _ _ _ h=>h) (Or.inl ⟨by rfl,fun w hSw=>by go_simp⟩) hHeld ?_
 refine wpAnyH_take (i:=2) (v:=.pointer (some ⟨w.heap.size,0,none⟩)) rfl (by kernel_rfl) (by kernel_rfl) (by kernel_rfl) (fun _ _ _ h=>h) (Or.inl ⟨by rfl,fun w hSw=>by go_simp⟩) hHeld ?_
 refine wpAnyH_take (i:=4) (v:=.pointer (some ⟨w.heap.size,24,none⟩)) rfl (by kernel_rfl) (by kernel_rfl) (by kernel_rfl) (fun _ _ _ h=>h) (Or.inl ⟨by rfl,fun w hSw=>by go_simp⟩) hHeld ?_
 refine wpAnyH_take (i:=7) (v:=.pointer (some ⟨w.heap.size,48,none⟩)) rfl (by kernel_rfl) (by kernel_rfl) (by kernel_rfl) (fun _ _ _ h=>h) (Or.inl ⟨by rfl,fun w hSw=>by go_simp⟩) hHeld ?_
 refine wpAnyH_take (i:=1) (v:=.agg (V (ext r)).toArray) rfl (by kernel_rfl) (by kernel_rfl) (by kernel_rfl) (fun _ _ _ h=>h) (yieldsIf_load_mid (by rfl) _ _ rfl (w.heap.size) 0 rfl (V (ext r)) _ (fun w h=>qae (qc _) h.fst) sqp.underlying41 rfl (qii (qc _))) hHeld ?_
 refine wpAnyH_take (i:=3) (v:=.agg (V (ext r)).toArray) rfl (by kernel_rfl) (by kernel_rfl) (by kernel_rfl) (fun _ _ _ h=>h) (yieldsIf_load_mid (by rfl) _ _ rfl (w.heap.size) 0 rfl (V (ext r)) _ (fun w h=>qae (qc _) h.fst) sqp.underlying41 rfl (qii (qc _))) hHeld ?_
 refine wpAnyH_take (i:=5) (v:=.agg (V (ext u)).toArray) rfl (by kernel_rfl) (by kernel_rfl) (by kernel_rfl) (fun _ _ _ h=>h) (yieldsIf_load_mid (by rfl) _ _ rfl (w.heap.size) 24 rfl (V (ext u)) _ (fun w h=>qj4 (qc _) (qc _) h.fst) sqp.underlying41 rfl (qii (qc _))) hHeld ?_
 refine wpAnyH_take (i:=8) (v:=.int .i64 n) rfl (by kernel_rfl) (by kernel_rfl) (by kernel_rfl) (fun _ _ _ h=>h) (Or.inl ⟨by rfl,fun w hSw=>by have:=qby (qc _) (qc _) hSw.fst;go_simp⟩) hHeld ?_
 refine wpAnyH_ready (rs:=[6]) (by kernel_rfl) (by simp) (AllReadyH.cons rfl (fun K hK=>?_) AllReadyH.nil)
 go_simp
 refine (inv.qcx (ext r) (ext u) _ RS.out US.out).mono ?_
 rintro e w' ⟨rfl,b1⟩
 rw [qra HS.out.r HS.out.u (by rw [HS.out.lr,HS.out.lu])]
 replace A1:=Lib.hid (A1.out.keep b1 A1.out.lt)
 replace B1:=Lib.hid (B1.out.trans (b1.mono B1.out.size))
 go_wp2_with fail
 have hHeld2:=hHeld.later b1 (by omega);clear b1 hHeld
 refine hK.out _ _ hHeld2 (fun hHeld=>?_)
 clear hK K hHeld2
 refine wpAnyH_ready (rs:=[9]) (by kernel_rfl) (by simp) (AllReadyH.cons rfl (fun K hK=>?_) AllReadyH.nil)
 refine kr rfl 43 _ rfl [(0,.agg (V (ext r)).toArray),(1,.agg (V (ext (thn r u))).toArray),(2,.int .i64 n)] rfl (V (gl (ext r) (ext (thn r u)) n)).toArray (qbw (qc _) (qc _) n) ?_
 refine hK.out _ _ hHeld (fun hHeld2=>?_)
 clear hK K hHeld2
 refine wpAnyH_ready (rs:=[10]) (by kernel_rfl) (by simp) (AllReadyH.cons rfl (fun K hK=>?_) AllReadyH.nil)
 refine ql rfl 43 _ _ rfl (w.heap.size + 1) (V (gl (ext r) (ext (thn r u)) n)).toArray rfl rfl 43 (V qp).toArray A1.out (zu (jg (qc _) (qc _) n)) (by simp [q8,jg,qc,qp]) (zy _) ?_
 refine hK.out _ _ (hHeld.other (by omega) (by simp) _) (fun hHeld2=>?_)
 clear hK K hHeld2
 refine wpAnyH_done (by kernel_rfl) ?_ _
 go_wp2_with fail
 exact bodyPost_ret (v:=.agg (V (gl (ext r) (ext (thn r u)) n)).toArray) (results_cell_row rfl _ _ (w.heap.size + 1) 43 (V (gl (ext r) (ext (thn r u)) n)).toArray (0,0) _ rfl A1.out.row sqp.underlying43 rfl (zu (jg (qc _) (qc _) n))) rfl ⟨rfl,below_setRow B1.out (by omega) _⟩
set_option maxHeartbeats 8000000 in
theorem q4m (r u:List Int) (n:Nat) (w:World) (hs:Sf n r u) :
  Calls sqp.prog 80 #[.agg (V (gl (ext r) (ext u) n)).toArray] w fun e w'=>e = .returned (.agg (V (gl (ext (Inv u)) (ext r) n)).toArray)/\Below w.heap.size w w':=by
 have HS:=Lib.hid hs
 have RS:=Lib.hid hs.r.sq;have US:=Lib.hid hs.u.sq
 have ER:=Lib.hid (qcl hs.r);have EU:=Lib.hid (qcl hs.u)
 clear hs
 go_enter sqp.func80,sqp.ntmps80
 go_wp2_with fail
 generalize hw1:(w.alloc (.cells (V (gl (ext r) (ext u) n)).toArray 43)).alloc (.cells #[.int .i64 0,.int .i64 0,.int .i64 0,.int .i64 0,.int .i64 0,.int .i64 0,.int .i64 0,.int .i64 0,.int .i64 0,.int .i64 0,.int .i64 0,.int .i64 0,.int .i64 0,.int .i64 0,.int .i64 0,.int .i64 0,.int .i64 0,.int .i64 0,.int .i64 0,.int .i64 0,.int .i64 0,.int .i64 0,.int .i64 0,.int .i64 0,.int .i64 0,.int .i64 0,.int .i64 0,.int .i64 0,.int .i64 0,.int .i64 0,.int .i64 0,.int .i64 0,.int .i64 0,.int .i64 0,.int .i64 0,.int .i64 0,.int .i64 0,.int .i64 0,.int .i64 0,.int .i64 0,.int .i64 0,.int .i64 0,.int .i64 0,.int .i64 0,.int .i64 0,.int .i64 0,.int .i64 0,.int .i64 0,.int .i64 0] 43) = w1
 have A0:Hid (Arr w1 w.heap.size (V (gl (ext r) (ext u) n)) 43):=Lib.hid (by rw [<-hw1];exact (Arr.new w _ _ rfl).alloc _)
 have A1:Hid (Arr w1 (w.heap.size + 1) (V qp) 43):=Lib.hid (by rw [<-hw1];exact Arr.new _ (V qp) _ (by simp))
 have B1:Hid (Below w.heap.size w w1):=Lib.hid (by rw [<-hw1];exact ((Below.refl _ _).alloc (Nat.le_refl _) _).alloc (by simp) _)
 have s1:w1.heap.size = w.heap.size + 2:=by rw [<-hw1];simp
 clear hw1
 refine wp_region_held_drew (S:=Hld w.heap.size w1.heap.size w1 [(w.heap.size,(V (gl (ext r) (ext u) n)))]) (by kernel_rfl) ((Hld.qa6 A0.out).lower (by omega)) (fun hHeld=>?_)
 have b1:Below w1.heap.size w1 w1.drew:=⟨rfl,rfl,rfl,Nat.le_refl _,fun _ _=>rfl⟩
 generalize w1.drew = w2 at *
 have s2:=b1.size
 replace A1:=Lib.hid (A1.out.keep b1 A1.out.lt)
 replace B1:=Lib.hid (B1.out.trans (b1.mono B1.out.size))
 clear b1 A0
 refine wpAnyH_take (i:=0) (v:=.pointer (some ⟨w.heap.size,24,none⟩)) rfl (by kernel_rfl) (by kernel_rfl) (by kernel_rfl) (fun _ _ _ h=>h) (Or.inl ⟨by rfl,fun w hSw=>by go_simp⟩) hHeld ?_
 refine wpAnyH_take (i:=3) (v:=.pointer (some ⟨w.heap.size,0,none⟩)) rfl (by kernel_rfl) (by kernel_rfl) (by kernel_rfl) (fun _ _ _ h=>h) (Or.inl ⟨by rfl,fun w hSw=>by go_simp⟩) hHeld ?_
 refine wpAnyH_take (i:=5) (v:=.pointer (some ⟨w.heap.size,48,none⟩)) rfl (by kernel_rfl) (by kernel_rfl) (by kernel_rfl) (fun _ _ _ h=>h) (Or.inl ⟨by rfl,fun w hSw=>by go_simp⟩) hHeld ?_
 refine wpAnyH_take (i:=1) (v:=.agg (V (ext u)).toArray) rfl (by kernel_rfl) (by kernel_rfl) (by kernel_rfl) (fun _ _ _ h=>h) (yieldsIf_load_mid (by rfl) _ _ rfl (w.heap.size) 24 rfl (V (ext u)) _ (fun w h=>qj4 (qc _) (qc _) h.fst) sqp.underlying41 rfl (qii (qc _))) hHeld ?_
 refine wpAnyH_take (i:=4) (v:=.agg (V (ext r)).toArray) rfl (by kernel_rfl) (by kernel_rfl) (by kernel_rfl) (fun _ _ _ h=>h) (yieldsIf_load_mid (by rfl) _ _ rfl (w.heap.size) 0 rfl (V (ext r)) _ (fun w h=>qae (qc _) h.fst) sqp.underlying41 rfl (qii (qc _))) hHeld ?_
 refine wpAnyH_take (i:=6) (v:=.int .i64 n) rfl (by kernel_rfl) (by kernel_rfl) (by kernel_rfl) (fun _ _ _ h=>h) (Or.inl ⟨by rfl,fun w hSw=>by have:=qby (qc _) (qc _) hSw.fst;go_simp⟩) hHeld ?_
 refine wpAnyH_ready (rs:=[2]) (by kernel_rfl) (by simp) (AllReadyH.cons rfl (fun K hK=>?_) AllReadyH.nil)
 go_simp
 refine (qbz (ext u) _ US.out).mono ?_
 rintro e w' ⟨rfl,b1⟩
 rw [EU.out]
 replace A1:=Lib.hid (A1.out.keep b1 A1.out.lt)
 replace B1:=Lib.hid (B1.out.trans (b1.mono B1.out.size))
 go_wp2_with fail
 have hHeld2:=hHeld.later b1 (by omega);clear b1 hHeld
 refine hK.out _ _ hHeld2 (fun hHeld=>?_)
 clear hK K hHeld2
 refine wpAnyH_ready (rs:=[7]) (by kernel_rfl) (by simp) (AllReadyH.cons rfl (fun K hK=>?_) AllReadyH.nil)
 refine kr rfl 43 _ rfl [(0,.agg (V (ext (Inv u))).toArray),(1,.agg (V (ext r)).toArray),(2,.int .i64 n)] rfl (V (gl (ext (Inv u)) (ext r) n)).toArray (qbw (qc _) (qc _) n) ?_
 refine hK.out _ _ hHeld (fun hHeld2=>?_)
 clear hK K hHeld2
 refine wpAnyH_ready (rs:=[8]) (by kernel_rfl) (by simp) (AllReadyH.cons rfl (fun K hK=>?_) AllReadyH.nil)
 refine ql rfl 43 _ _ rfl (w.heap.size + 1) (V (gl (ext (Inv u)) (ext r) n)).toArray rfl rfl 43 (V qp).toArray A1.out (zu (jg (qc _) (qc _) n)) (by simp [q8,jg,qc,qp]) (zy _) ?_
 refine hK.out _ _ (hHeld.other (by omega) (by simp) _) (fun hHeld2=>?_)
 clear hK K hHeld2
 refine wpAnyH_done (by kernel_rfl) ?_ _
 go_wp2_with fail
 exact bodyPost_ret (v:=.agg (V (gl (ext (Inv u)) (ext r) n)).toArray) (results_cell_row rfl _ _ (w.heap.size + 1) 43 (V (gl (ext (Inv u)) (ext r) n)).toArray (0,0) _ rfl A1.out.row sqp.underlying43 rfl (zu (jg (qc _) (qc _) n))) rfl ⟨rfl,below_setRow B1.out (by omega) _⟩
set_option maxHeartbeats 8000000 in
theorem q4n (r u:List Int) (n:Nat) (w:World) (hs:Sf n r u) :
  Calls sqp.prog 81 #[.agg (V (gl (ext r) (ext u) n)).toArray] w fun e w'=>e = .returned (.agg (V (gl (ext u) (ext (Inv r)) n)).toArray)/\Below w.heap.size w w':=by
 have HS:=Lib.hid hs
 have RS:=Lib.hid hs.r.sq;have US:=Lib.hid hs.u.sq
 have ER:=Lib.hid (qcl hs.r);have EU:=Lib.hid (qcl hs.u)
 clear hs
 go_enter sqp.func81,sqp.ntmps81
 go_wp2_with fail
 generalize hw1:(w.alloc (.cells (V (gl (ext r) (ext u) n)).toArray 43)).alloc (.cells #[.int .i64 0,.int .i64 0,.int .i64 0,.int .i64 0,.int .i64 0,.int .i64 0,.int .i64 0,.int .i64 0,.int .i64 0,.int .i64 0,.int .i64 0,.int .i64 0,.int .i64 0,.int .i64 0,.int .i64 0,.int .i64 0,.int .i64 0,.int .i64 0,.int .i64 0,.int .i64 0,.int .i64 0,.int .i64 0,.int .i64 0,.int .i64 0,.int .i64 0,.int .i64 0,.int .i64 0,.int .i64 0,.int .i64 0,.int .i64 0,.int .i64 0,.int .i64 0,.int .i64 0,.int .i64 0,.int .i64 0,.int .i64 0,.int .i64 0,.int .i64 0,.int .i64 0,.int .i64 0,.int .i64 0,.int .i64 0,.int .i64 0,.int .i64 0,.int .i64 0,.int .i64 0,.int .i64 0,.int .i64 0,.int .i64 0] 43) = w1
 have A0:Hid (Arr w1 w.heap.size (V (gl (ext r) (ext u) n)) 43):=Lib.hid (by rw [<-hw1];exact (Arr.new w _ _ rfl).alloc _)
 have A1:Hid (Arr w1 (w.heap.size + 1) (V qp) 43):=Lib.hid (by rw [<-hw1];exact Arr.new _ (V qp) _ (by simp))
 have B1:Hid (Below w.heap.size w w1):=Lib.hid (by rw [<-hw1];exact ((Below.refl _ _).alloc (Nat.le_refl _) _).alloc (by simp) _)
 have s1:w1.heap.size = w.heap.size + 2:=by rw [<-hw1];simp
 clear hw1
 refine wp_region_held_drew (S:=Hld w.heap.size w1.heap.size w1 [(w.heap.size,(V (gl (ext r) (ext u) n)))]) (by kernel_rfl) ((Hld.qa6 A0.out).lower (by omega)) (fun hHeld=>?_)
 have b1:Below w1.heap.size w1 w1.drew:=⟨rfl,rfl,rfl,Nat.le_refl _,fun _ _=>rfl⟩
 generalize w1.drew = w2 at *
 have s2:=b1.size
 replace A1:=Lib.hid (A1.out.keep b1 A1.out.lt)
 replace B1:=Lib.hid (B1.out.trans (b1.mono B1.out.size))
 clear b1 A0
 refine wpAnyH_take (i:=0) (v:=.pointer (some ⟨w.heap.size,24,none⟩)) rfl (by kernel_rfl) (by kernel_rfl) (by kernel_rfl) (fun _ _ _ h=>h) (Or.inl ⟨by rfl,fun w hSw=>by go_simp⟩) hHeld ?_
 refine wpAnyH_take (i:=2) (v:=.pointer (some ⟨w.heap.size,0,none⟩)) rfl (by kernel_rfl) (by kernel_rfl) (by kernel_rfl) (fun _ _ _ h=>h) (Or.inl ⟨by rfl,fun w hSw=>by go_simp⟩) hHeld ?_
 refine wpAnyH_take (i:=5) (v:=.pointer (some ⟨w.heap.size,48,none⟩)) rfl (by kernel_rfl) (by kernel_rfl) (by kernel_rfl) (fun _ _ _ h=>h) (Or.inl ⟨by rfl,fun w hSw=>by go_simp⟩) hHeld ?_
 refine wpAnyH_take (i:=1) (v:=.agg (V (ext u)).toArray) rfl (by kernel_rfl) (by kernel_rfl) (by kernel_rfl) (fun _ _ _ h=>h) (yieldsIf_load_mid (by rfl) _ _ rfl (w.heap.size) 24 rfl (V (ext u)) _ (fun w h=>qj4 (qc _) (qc _) h.fst) sqp.underlying41 rfl (qii (qc _))) hHeld ?_
 refine wpAnyH_take (i:=3) (v:=.agg (V (ext r)).toArray) rfl (by kernel_rfl) (by kernel_rfl) (by kernel_rfl) (fun _ _ _ h=>h) (yieldsIf_load_mid (by rfl) _ _ rfl (w.heap.size) 0 rfl (V (ext r)) _ (fun w h=>qae (qc _) h.fst) sqp.underlying41 rfl (qii (qc _))) hHeld ?_
 refine wpAnyH_take (i:=6) (v:=.int .i64 n) rfl (by kernel_rfl) (by kernel_rfl) (by kernel_rfl) (fun _ _ _ h=>h) (Or.inl ⟨by rfl,fun w hSw=>by have:=qby (qc _) (qc _) hSw.fst;go_simp⟩) hHeld ?_
 refine wpAnyH_ready (rs:=[4]) (by kernel_rfl) (by simp) (AllReadyH.cons rfl (fun K hK=>?_) AllReadyH.nil)
 go_simp
 refine (qbz (ext r) _ RS.out).mono ?_
 rintro e w' ⟨rfl,b1⟩
 rw [ER.out]
 replace A1:=Lib.hid (A1.out.keep b1 A1.out.lt)
 replace B1:=Lib.hid (B1.out.trans (b1.mono B1.out.size))
 go_wp2_with fail
 have hHeld2:=hHeld.later b1 (by omega);clear b1 hHeld
 refine hK.out _ _ hHeld2 (fun hHeld=>?_)
 clear hK K hHeld2
 refine wpAnyH_ready (rs:=[7]) (by kernel_rfl) (by simp) (AllReadyH.cons rfl (fun K hK=>?_) AllReadyH.nil)
 refine kr rfl 43 _ rfl [(0,.agg (V (ext u)).toArray),(1,.agg (V (ext (Inv r))).toArray),(2,.int .i64 n)] rfl (V (gl (ext u) (ext (Inv r)) n)).toArray (qbw (qc _) (qc _) n) ?_
 refine hK.out _ _ hHeld (fun hHeld2=>?_)
 clear hK K hHeld2
 refine wpAnyH_ready (rs:=[8]) (by kernel_rfl) (by simp) (AllReadyH.cons rfl (fun K hK=>?_) AllReadyH.nil)
 refine ql rfl 43 _ _ rfl (w.heap.size + 1) (V (gl (ext u) (ext (Inv r)) n)).toArray rfl rfl 43 (V qp).toArray A1.out (zu (jg (qc _) (qc _) n)) (by simp [q8,jg,qc,qp]) (zy _) ?_
 refine hK.out _ _ (hHeld.other (by omega) (by simp) _) (fun hHeld2=>?_)
 clear hK K hHeld2
 refine wpAnyH_done (by kernel_rfl) ?_ _
 go_wp2_with fail
 exact bodyPost_ret (v:=.agg (V (gl (ext u) (ext (Inv r)) n)).toArray) (results_cell_row rfl _ _ (w.heap.size + 1) 43 (V (gl (ext u) (ext (Inv r)) n)).toArray (0,0) _ rfl A1.out.row sqp.underlying43 rfl (zu (jg (qc _) (qc _) n))) rfl ⟨rfl,below_setRow B1.out (by omega) _⟩
def qqj:List Value:=[.func (.func 78) #[] #[],.func (.func 79) #[] #[],.func (.func 80) #[] #[],.func (.func 81) #[] #[]]
theorem qy2:(sqp.prog.info? 116).map (·.size) = some qqj.toArray.size:=by kernel_rfl
set_option maxHeartbeats 1000000 in
theorem quw (w:World):Calls sqp.prog 74 #[] w fun e w'=>e = .returned (.agg qqj.toArray)/\Below w.heap.size w w':=by
 go_enter sqp.func74,sqp.ntmps74
 go_wp2_with (refine wpList_store_row rfl 116 _ _ rfl w.heap.size qqj.toArray rfl rfl 116 #[.nilFunc,.nilFunc,.nilFunc,.nilFunc] (Arr.new w [.nilFunc,.nilFunc,.nilFunc,.nilFunc] _ rfl) qy2 rfl (by simp [qqj,Value.oneCell']) ?_)
 exact bodyPost_ret (v:=.agg qqj.toArray) (results_cell_row rfl _ _ w.heap.size 116 qqj.toArray (0,0) _ rfl (Arr.new w [.nilFunc,.nilFunc,.nilFunc,.nilFunc] 116 rfl).row sqp.underlying116 rfl qy2) rfl ⟨rfl,below_setRow ((Below.refl _ _).alloc (Nat.le_refl _) _) (Nat.le_refl _) _⟩
def qj9 (z:Int) (s:Sur):Sur:=if z = 0 then qhg s else if z = 1 then qdy s else if z = 2 then qqn s else qfs s
def runN (L:List Int) (s:Sur):Sur:=L.foldl (fun s z=>qj9 z s) s
theorem qy3 {n:Nat} {R U:List Int} (s:Sf n R U) (z:Int):Sf n (qj9 z (R,U)).1 (qj9 z (R,U)).2:=by
 unfold qj9
 split
 ·exact qm6 s
 ·split
  ·exact qhh s
  ·split
   ·exact qqo s
   ·exact qjk s
theorem qy4 {n:Nat}:∀ (L:List Int) (s:Sur),Sf n s.1 s.2->Sf n (runN L s).1 (runN L s).2:=by
 intro L
 induction L with
 | nil=>intro s h;exact h
 | cons c L ih=>intro s h;exact ih (qj9 c s) (qy3 (R:=s.1) (U:=s.2) h c)
theorem qrs {L:List Int} {k:Nat} {x:Int} (hx:L[k]? = some x) (s:Sur):runN (L.take (k + 1)) s = qj9 x (runN (L.take k) s):=by
 unfold runN
 rw [List.take_add_one,hx,List.foldl_append]
 rfl
theorem qy5 (z:Nat) (hz:z<=3) (r u:List Int) (n:Nat) (w:World) (hs:Sf n r u) :
  ∃ f:Nat,qqj[z]? = some (.func (.func f) #[] #[])/\(∀ args W,(callFunc f args).run sqp.prog W = .ok (.enter f args) W)/\Calls sqp.prog f #[.agg (V (gl (ext r) (ext u) n)).toArray] w fun e w'=>e = .returned (.agg (V (gl (ext (qj9 (z:Int) (r,u)).1) (ext (qj9 (z:Int) (r,u)).2) n)).toArray)/\Below w.heap.size w w':=by
 match z,hz with
 | 0,_=>exact ⟨_,rfl,enters_of sqp.func78 (by kernel_rfl) rfl,q4k r u n w hs⟩
 | 1,_=>exact ⟨_,rfl,enters_of sqp.func79 (by kernel_rfl) rfl,q4l r u n w hs⟩
 | 2,_=>exact ⟨_,rfl,enters_of sqp.func80 (by kernel_rfl) rfl,q4m r u n w hs⟩
 | 3,_=>exact ⟨_,rfl,enters_of sqp.func81 (by kernel_rfl) rfl,q4n r u n w hs⟩
theorem qcy {P:Program} {ops:Array Oper} {w:World} {Q:Act->Prop} {a:Act} {o:Oper} {rest:List Oper} {v:Value} (hy:YieldsIf P ops (fun W=>W = w) o v a) (h:wpStill P ops w Q rest (a.put o.dst v)):wpStill P ops w Q (o :: rest) a:=by
 unfold wpStill
 rcases hy with ⟨hw,hv⟩ | ⟨hw,rfl⟩
 ·rw [if_pos hw]
  unfold Oper.still
  rw [hv w rfl,Oper.stillUpon_value]
  exact h
 ·rw [if_neg (by rw [hw];decide)]
  exact h
structure AR (w wr:World) (B5:Nat) (p:List Int):Prop where
 g:Arr wr w.heap.size (V p) 43
 res:Arr wr (w.heap.size + 1) (V qp) 43
 tab:Arr wr B5 qqj 116
 hB:w.heap.size + 1 < B5
 bel:Below w.heap.size w wr
set_option maxHeartbeats 4000000 in
theorem qrt (r u:List Int) (n:Nat) (A:Option Addr) (m c:Nat) (L:List Int) (hi:Nat) (w:World) (hL:Rd w hi A m (V L)) (hh:hi<=w.heap.size) (h3:∀ l ∈ L,0<=l/\l<=3) (hs:Sf n r u) (hm:m<=40) :
  Calls sqp.prog 60 #[.agg (V (gl (ext r) (ext u) n)).toArray,.slice A m c] w fun e w'=>e = .returned (.agg (V (gl (ext (runN L (r,u)).1) (ext (runN L (r,u)).2) n)).toArray)/\Below w.heap.size w w':=by
 have HS:=Lib.hid hs;have HL:=Lib.hid hL;have H3:=Lib.hid h3;have LL:Hid (L.length = m):=Lib.hid (by simpa [V] using hL.1)
 clear hs hL h3
 go_enter sqp.func60,sqp.ntmps60
 go_wp2_with fail
 generalize hw1:(w.alloc (.cells (V (gl (ext r) (ext u) n)).toArray 43)).alloc (.cells #[.int .i64 0,.int .i64 0,.int .i64 0,.int .i64 0,.int .i64 0,.int .i64 0,.int .i64 0,.int .i64 0,.int .i64 0,.int .i64 0,.int .i64 0,.int .i64 0,.int .i64 0,.int .i64 0,.int .i64 0,.int .i64 0,.int .i64 0,.int .i64 0,.int .i64 0,.int .i64 0,.int .i64 0,.int .i64 0,.int .i64 0,.int .i64 0,.int .i64 0,.int .i64 0,.int .i64 0,.int .i64 0,.int .i64 0,.int .i64 0,.int .i64 0,.int .i64 0,.int .i64 0,.int .i64 0,.int .i64 0,.int .i64 0,.int .i64 0,.int .i64 0,.int .i64 0,.int .i64 0,.int .i64 0,.int .i64 0,.int .i64 0,.int .i64 0,.int .i64 0,.int .i64 0,.int .i64 0,.int .i64 0,.int .i64 0] 43) = w1
 have A0:Hid (Arr w1 w.heap.size (V (gl (ext r) (ext u) n)) 43):=Lib.hid (by rw [<-hw1];exact (Arr.new w _ _ rfl).alloc _)
 have A1:Hid (Arr w1 (w.heap.size + 1) (V qp) 43):=Lib.hid (by rw [<-hw1];exact Arr.new _ (V qp) _ (by simp))
 have B1:Hid (Below w.heap.size w w1):=Lib.hid (by rw [<-hw1];exact ((Below.refl _ _).alloc (Nat.le_refl _) _).alloc (by simp) _)
 have s1:w1.heap.size = w.heap.size + 2:=by rw [<-hw1];simp
 clear hw1
 refine (quw _).mono ?_
 rintro e w2 ⟨rfl,b1⟩
 have s2:=b1.size
 replace A0:=Lib.hid (A0.out.keep b1 A0.out.lt)
 replace A1:=Lib.hid (A1.out.keep b1 A1.out.lt)
 replace B1:=Lib.hid (B1.out.trans (b1.mono B1.out.size))
 clear b1
 go_wp2_with (refine wpList_store_row rfl 116 _ _ rfl w2.heap.size qqj.toArray rfl rfl 116 #[.nilFunc,.nilFunc,.nilFunc,.nilFunc] (Arr.new w2 [.nilFunc,.nilFunc,.nilFunc,.nilFunc] _ rfl) qy2 rfl (by simp [qqj,Value.oneCell']) ?_)
 generalize hw3:(w2.alloc (.cells #[.nilFunc,.nilFunc,.nilFunc,.nilFunc] 116)).setRow w2.heap.size qqj.toArray = w3
 have A5:Hid (Arr w3 w2.heap.size qqj 116):=Lib.hid (by rw [<-hw3];exact (Arr.new w2 [.nilFunc,.nilFunc,.nilFunc,.nilFunc] _ rfl).row)
 have b1:Below w2.heap.size w2 w3:=by rw [<-hw3];exact below_setRow ((Below.refl _ _).alloc (Nat.le_refl _) _) (Nat.le_refl _) _
 clear hw3
 have hAR:AR w w3 w2.heap.size (gl (ext r) (ext u) n):=⟨A0.out.keep b1 A0.out.lt,A1.out.keep b1 A1.out.lt,A5.out,by omega,B1.out.trans (b1.mono B1.out.size)⟩
 clear A0 A1 A5 B1 b1
 have HAR:=Lib.hid hAR;clear hAR
 go_loopw [11] (fun i wr=>∃ k:Nat,k<=m/\i = .int .i64 k/\AR w wr w2.heap.size (gl (ext (runN (L.take k) (r,u)).1) (ext (runN (L.take k) (r,u)).2) n)) (fun i _=>m - (intOf i).toNat)
 case atStart=>exact ⟨0,Nat.zero_le _,rfl,HAR.out⟩
 case round =>
  clear HAR
  obtain ⟨k,hk,rfl,hr⟩:=hrel
  have HR:=Lib.hid hr;clear hr
  by_cases hlt:k < m
  ·obtain ⟨x,hx⟩:∃ x,L[k]? = some x:=⟨L[k]'(by rw [LL.out];exact hlt),List.getElem?_eq_getElem _⟩
   have h03:=H3.out x (List.mem_of_getElem? hx)
   obtain ⟨z,rfl⟩:=Int.eq_ofNat_of_zero_le h03.1
   have hz3:z<=3:=by have:=h03.2;omega
   have ST:=Lib.hid (qrs hx (r,u))
   have SK:=Lib.hid (qy4 (L.take k) (r,u) HS.out)
   have RD:=HL.out.keep HR.out.bel hh
   obtain ⟨go,oo,uo,rfl,hgo,huo,hco⟩:=RD.at_ hlt
   rw [qpc hx] at huo
   obtain rfl:=Option.some.inj huo
   clear RD huo h03 hx
   obtain ⟨rk,hrk⟩:∃ q,q = runN (L.take k) (r,u):=⟨_,rfl⟩
   rw [<-hrk] at HR ST SK
   clear hrk
   obtain ⟨ru,uu⟩:=rk
   have hBw:w2.heap.size < wr.heap.size:=HR.out.tab.lt
   have hB:=HR.out.hB
   obtain ⟨f,hf,hen,hc⟩:=qy5 z hz3 ru uu n wr.drew SK.out
   have HC:=Lib.hid hc;have HF:=Lib.hid hf;have HE:=Lib.hid hen;clear hf hc hen
   go_wp2_with fail
   refine wp_region_still_tail 4 (by kernel_rfl) (by kernel_rfl) ?_
   simp only [List.take_succ_cons,List.take_zero,List.drop_succ_cons,List.drop_zero]
   have b1:Below wr.heap.size wr wr.drew:=⟨rfl,rfl,rfl,Nat.le_refl _,fun _ _=>rfl⟩
   change wpStill _ _ wr.drew _ _ _
   have AF:Hid (AR w wr.drew w2.heap.size (gl (ext ru) (ext uu) n)):=Lib.hid ⟨HR.out.g.keep b1 HR.out.g.lt,HR.out.res.keep b1 HR.out.res.lt,HR.out.tab.keep b1 HR.out.tab.lt,hB,HR.out.bel.trans (b1.mono HR.out.bel.size)⟩
   have s_:=b1.size
   generalize hw4:wr.drew = w4 at *
   clear b1 HR
   refine qcy (v:=.int .i64 (z:Int)) (Or.inl ⟨by rfl,fun w hSw=>by go_simp⟩) ?_
   refine qcy (v:=.pointer (some ⟨w2.heap.size,z,none⟩)) (Or.inl ⟨by rfl,fun w hSw=>by go_simp;intro h4;exact absurd h4 (by omega)⟩) ?_
   refine qcy (v:=.func (.func f) #[] #[]) (Or.inl ⟨by rfl,fun W hSw=>by subst hSw;have hc:=AF.out.tab.cell HF.out;go_simp⟩) ?_
   refine qcy (v:=.agg (V (gl (ext ru) (ext uu) n)).toArray) (yieldsIf_load_mid (by rfl) _ _ rfl (w.heap.size) 0 rfl (V (gl (ext ru) (ext uu) n)) _ (fun W h=>by subst h;exact fun j v hv=>by rw [Nat.zero_add];exact AF.out.g.cell hv) sqp.underlying43 rfl (q3h (jg (qc _) (qc _) _))) ?_
   refine wpStill_nil ?_
   change wpList _ _ _ _ _ wr.drew
   rw [hw4]
   clear hw4
   have hE:=HE.out
   go_wp2_with fail
   refine HC.out.mono ?_
   rintro e w5 ⟨rfl,b1⟩
   have s5:=b1.size
   have GL:=Lib.hid (jg (qc (qj9 (z:Int) (ru,uu)).1) (qc (qj9 (z:Int) (ru,uu)).2) n)
   replace AF:Hid (AR w w5 w2.heap.size (gl (ext ru) (ext uu) n)):=Lib.hid ⟨AF.out.g.keep b1 AF.out.g.lt,AF.out.res.keep b1 AF.out.res.lt,AF.out.tab.keep b1 AF.out.tab.lt,hB,AF.out.bel.trans (b1.mono AF.out.bel.size)⟩
   clear b1 hE HE HC HF
   go_wp2_with (refine wpList_store_row rfl 43 _ _ rfl w.heap.size (V (gl (ext (qj9 (z:Int) (ru,uu)).1) (ext (qj9 (z:Int) (ru,uu)).2) n)).toArray rfl rfl 43 (V (gl (ext ru) (ext uu) n)).toArray AF.out.g (zu GL.out) (by simp [q8,GL.out,jg,qc]) (zy _) ?_)
   have HN:Hid (AR w (w5.setRow w.heap.size (V (gl (ext (qj9 (z:Int) (ru,uu)).1) (ext (qj9 (z:Int) (ru,uu)).2) n)).toArray) w2.heap.size (gl (ext (runN (L.take (k + 1)) (r,u)).1) (ext (runN (L.take (k + 1)) (r,u)).2) n)):=Lib.hid (by
    rw [ST.out]
    exact ⟨AF.out.g.row,AF.out.res.qh (by omega),AF.out.tab.qh (by omega),hB,below_setRow AF.out.bel (Nat.le_refl _) _⟩)
   generalize w5.setRow w.heap.size (V (gl (ext (qj9 (z:Int) (ru,uu)).1) (ext (qj9 (z:Int) (ru,uu)).2) n)).toArray = w6 at *
   clear AF
   go_wp2_with fail
   go_roundw
   case rel=>exact ⟨k + 1,by omega,by go_num,HN.out⟩
   case measure=>simp [intOf];omega
  ·obtain rfl:k = m:=by omega
   have e:L.take k = L:=List.take_of_length_le (by rw [LL.out];exact Nat.le_refl _)
   rw [e] at HR;clear e
   have GL:=Lib.hid (jg (qc (runN L (r,u)).1) (qc (runN L (r,u)).2) n)
   go_wp2_with (first | (refine wpList_load_row rfl 43 _ rfl w.heap.size rfl 43 (V (gl (ext (runN L (r,u)).1) (ext (runN L (r,u)).2) n)).toArray (0,0) _ HR.out.g sqp.underlying43 rfl (zu GL.out) ?_) | (refine wpList_store_row rfl 43 _ _ rfl (w.heap.size + 1) (V (gl (ext (runN L (r,u)).1) (ext (runN L (r,u)).2) n)).toArray rfl rfl 43 (V qp).toArray HR.out.res (zu GL.out) (by simp [q8,GL.out,qp]) (zy _) ?_))
   exact bodyPost_ret (v:=.agg (V (gl (ext (runN L (r,u)).1) (ext (runN L (r,u)).2) n)).toArray) (results_cell_row rfl _ _ (w.heap.size + 1) 43 (V (gl (ext (runN L (r,u)).1) (ext (runN L (r,u)).2) n)).toArray (0,0) _ rfl HR.out.res.row sqp.underlying43 rfl (zu GL.out)) rfl ⟨rfl,below_setRow HR.out.bel (by omega) _⟩
end Go.Proofs.Ytcdclihinmdgiaa.la

namespace Go.Proofs.Ytcdclihinmdgiaa.la
open Go.ChangeShapes Go.WideShapes Go.ChangeAt Go.RowKit
open mem ints arr pm permOk permOf inv fns sf gl mk lw
set_option linter.unusedVariables false
set_option maxRecDepth 100000
end Go.Proofs.Ytcdclihinmdgiaa.la

namespace Go.Proofs.Ytcdclihinmdgiaa.rw
open Go.ChangeShapes Go.WideShapes Go.ChangeAt Go.RowKit
open mem ints arr pm permOk permOf inv fns sf gl mk lw la Go.Proofs.Ytcdclihinmdgiaa.wd
set_option linter.unusedVariables false
set_option maxRecDepth 100000
theorem q12 {c:UInt8} (h:c.toNat = 84) (s:Sur):qa2 c s = qhg s:=by simp [qa2,h]
theorem qzr {c:UInt8} (h:c.toNat = 116) (s:Sur):qa2 c s = qdy s:=by simp [qa2,h]
theorem q13 {c:UInt8} (h:c.toNat = 83) (s:Sur):qa2 c s = qqn s:=by simp [qa2,h]
theorem qzs {c:UInt8} (h:c.toNat = 115) (s:Sur):qa2 c s = qfs s:=by simp [qa2,h]
set_option maxHeartbeats 2000000 in
theorem qma (v:Value) (r u:List Int) (N hi:Nat) (w:World) (hx:Srd w hi v r u) (hs:Sf N r u) (c:UInt8) (hc:isL c = true) :
  Calls sqp.prog 28 #[v,.int .u8 (c.toNat:Int)] w fun e w'=>∃ g,e = .returned g/\Svl w' w.heap.size w'.heap.size g (qa2 c (r,u)).1 (qa2 c (r,u)).2/\Below w.heap.size w w':=by
 have HX:=Lib.hid hx
 obtain ⟨P,n,c',Q,m',d,rfl,q1,q2,e1,e2,ht,HR⟩:=hx.open
 have HS:=Lib.hid hs
 clear hx hs HR q1 q2
 have HK:=Lib.hid (qep HS.out c)
 have N0:=Lib.hid (fun o=>Arr.new (w.alloc o) [.slice none 0 0,.slice none 0 0] 32 (g:=w.heap.size + 1) (by simp))
 rcases qy6.1 hc with h1 | h1 | h1 | h1
 ·have EL:=Lib.hid (q12 h1 (r,u));clear hc
  go_enter sqp.func28,sqp.ntmps28
  go_wp2_with fail
  refine (qso _ r u N hi _ (HX.out.keep (((Below.refl hi w).alloc ht _).alloc (by simp;omega) _) (Nat.le_refl _)) HS.out).mono ?_
  rintro e w6 ⟨g,rfl,sg,b1⟩
  have A1:=Lib.hid ((N0.out _).keep b1 (by simp))
  have hs1:w.heap.size + 2<=w6.heap.size:=by have:=b1.size;simpa using this
  replace sg:Svl w6 (w.heap.size + 2) w6.heap.size g (qa2 c (r,u)).1 (qa2 c (r,u)).2:=by rw [EL.out];have t:=sg;simp at t;exact t
  have B1:Hid (Below w.heap.size w w6):=Lib.hid ((((Below.refl _ _).alloc (Nat.le_refl _) _).alloc (by simp) _).trans (b1.mono (by simp <;> omega)));clear b1
  obtain ⟨P3,c3,Q3,d3,rfl⟩:=sg.lens HK.out.lr HK.out.lu
  have SG:=Lib.hid sg;clear sg
  go_wp2_with (refine wpList_store_row rfl 32 _ _ rfl (w.heap.size + 1) #[.slice P3 N c3,.slice Q3 N d3] rfl rfl 32 #[.slice none 0 0,.slice none 0 0] A1.out yj rfl (by simp [Value.oneCell']) ?_)
  exact bodyPost_ret (v:=.agg #[.slice P3 N c3,.slice Q3 N d3]) (results_cell_row rfl _ _ (w.heap.size + 1) 32 #[.slice P3 N c3,.slice Q3 N d3] (0,0) _ rfl A1.out.row sqp.underlying32 rfl yj) rfl (by
   have:=Svl.row SG.out (g:=w.heap.size + 1) (by omega) #[.slice P3 N c3,.slice Q3 N d3]
   exact ⟨_,rfl,(by simpa using this.later (by omega)),below_setRow B1.out (by omega) _⟩)
 ·have EL:=Lib.hid (qzr h1 (r,u));clear hc
  go_enter sqp.func28,sqp.ntmps28
  go_wp2_with fail
  refine (qmb _ r u N hi _ (HX.out.keep (((Below.refl hi w).alloc ht _).alloc (by simp;omega) _) (Nat.le_refl _)) HS.out).mono ?_
  rintro e w6 ⟨g,rfl,sg,b1⟩
  have A1:=Lib.hid ((N0.out _).keep b1 (by simp))
  have hs1:w.heap.size + 2<=w6.heap.size:=by have:=b1.size;simpa using this
  replace sg:Svl w6 (w.heap.size + 2) w6.heap.size g (qa2 c (r,u)).1 (qa2 c (r,u)).2:=by rw [EL.out];have t:=sg;simp at t;exact t
  have B1:Hid (Below w.heap.size w w6):=Lib.hid ((((Below.refl _ _).alloc (Nat.le_refl _) _).alloc (by simp) _).trans (b1.mono (by simp <;> omega)));clear b1
  obtain ⟨P3,c3,Q3,d3,rfl⟩:=sg.lens HK.out.lr HK.out.lu
  have SG:=Lib.hid sg;clear sg
  go_wp2_with (refine wpList_store_row rfl 32 _ _ rfl (w.heap.size + 1) #[.slice P3 N c3,.slice Q3 N d3] rfl rfl 32 #[.slice none 0 0,.slice none 0 0] A1.out yj rfl (by simp [Value.oneCell']) ?_)
  exact bodyPost_ret (v:=.agg #[.slice P3 N c3,.slice Q3 N d3]) (results_cell_row rfl _ _ (w.heap.size + 1) 32 #[.slice P3 N c3,.slice Q3 N d3] (0,0) _ rfl A1.out.row sqp.underlying32 rfl yj) rfl (by
   have:=Svl.row SG.out (g:=w.heap.size + 1) (by omega) #[.slice P3 N c3,.slice Q3 N d3]
   exact ⟨_,rfl,(by simpa using this.later (by omega)),below_setRow B1.out (by omega) _⟩)
 ·have EL:=Lib.hid (q13 h1 (r,u));clear hc
  go_enter sqp.func28,sqp.ntmps28
  go_wp2_with fail
  refine (qvt _ r u N hi _ (HX.out.keep (((Below.refl hi w).alloc ht _).alloc (by simp;omega) _) (Nat.le_refl _)) HS.out).mono ?_
  rintro e w6 ⟨g,rfl,sg,b1⟩
  have A1:=Lib.hid ((N0.out _).keep b1 (by simp))
  have hs1:w.heap.size + 2<=w6.heap.size:=by have:=b1.size;simpa using this
  replace sg:Svl w6 (w.heap.size + 2) w6.heap.size g (qa2 c (r,u)).1 (qa2 c (r,u)).2:=by rw [EL.out];have t:=sg;simp at t;exact t
  have B1:Hid (Below w.heap.size w w6):=Lib.hid ((((Below.refl _ _).alloc (Nat.le_refl _) _).alloc (by simp) _).trans (b1.mono (by simp <;> omega)));clear b1
  obtain ⟨P3,c3,Q3,d3,rfl⟩:=sg.lens HK.out.lr HK.out.lu
  have SG:=Lib.hid sg;clear sg
  go_wp2_with (refine wpList_store_row rfl 32 _ _ rfl (w.heap.size + 1) #[.slice P3 N c3,.slice Q3 N d3] rfl rfl 32 #[.slice none 0 0,.slice none 0 0] A1.out yj rfl (by simp [Value.oneCell']) ?_)
  exact bodyPost_ret (v:=.agg #[.slice P3 N c3,.slice Q3 N d3]) (results_cell_row rfl _ _ (w.heap.size + 1) 32 #[.slice P3 N c3,.slice Q3 N d3] (0,0) _ rfl A1.out.row sqp.underlying32 rfl yj) rfl (by
   have:=Svl.row SG.out (g:=w.heap.size + 1) (by omega) #[.slice P3 N c3,.slice Q3 N d3]
   exact ⟨_,rfl,(by simpa using this.later (by omega)),below_setRow B1.out (by omega) _⟩)
 ·have EL:=Lib.hid (qzs h1 (r,u));clear hc
  go_enter sqp.func28,sqp.ntmps28
  go_wp2_with fail
  refine (qpp _ r u N hi _ (HX.out.keep (((Below.refl hi w).alloc ht _).alloc (by simp;omega) _) (Nat.le_refl _)) HS.out).mono ?_
  rintro e w6 ⟨g,rfl,sg,b1⟩
  have A1:=Lib.hid ((N0.out _).keep b1 (by simp))
  have hs1:w.heap.size + 2<=w6.heap.size:=by have:=b1.size;simpa using this
  replace sg:Svl w6 (w.heap.size + 2) w6.heap.size g (qa2 c (r,u)).1 (qa2 c (r,u)).2:=by rw [EL.out];have t:=sg;simp at t;exact t
  have B1:Hid (Below w.heap.size w w6):=Lib.hid ((((Below.refl _ _).alloc (Nat.le_refl _) _).alloc (by simp) _).trans (b1.mono (by simp <;> omega)));clear b1
  obtain ⟨P3,c3,Q3,d3,rfl⟩:=sg.lens HK.out.lr HK.out.lu
  have SG:=Lib.hid sg;clear sg
  go_wp2_with (refine wpList_store_row rfl 32 _ _ rfl (w.heap.size + 1) #[.slice P3 N c3,.slice Q3 N d3] rfl rfl 32 #[.slice none 0 0,.slice none 0 0] A1.out yj rfl (by simp [Value.oneCell']) ?_)
  exact bodyPost_ret (v:=.agg #[.slice P3 N c3,.slice Q3 N d3]) (results_cell_row rfl _ _ (w.heap.size + 1) 32 #[.slice P3 N c3,.slice Q3 N d3] (0,0) _ rfl A1.out.row sqp.underlying32 rfl yj) rfl (by
   have:=Svl.row SG.out (g:=w.heap.size + 1) (by omega) #[.slice P3 N c3,.slice Q3 N d3]
   exact ⟨_,rfl,(by simpa using this.later (by omega)),below_setRow B1.out (by omega) _⟩)
def Bx (w wr:World) (B5 m:Nat) (r u:List Int):Prop :=
 ∃ P c Q d l1 h1 l2 h2,Arr wr B5 [.slice P m c,.slice Q m d] 32/\Row wr l1 h1 P m (V r)/\Row wr l2 h2 Q m (V u)/\m<=c/\m<=d/\w.heap.size + 2<=l1/\w.heap.size + 2<=l2/\(h1<=l2\/h2<=l1) ∧
  (h1<=B5\/B5 < l1)/\(h2<=B5\/B5 < l2)/\w.heap.size + 2<=B5/\Arr wr (w.heap.size + 1) [.slice none 0 0,.slice none 0 0] 32/\Below w.heap.size w wr
end Go.Proofs.Ytcdclihinmdgiaa.rw
