/-
 FnCusps: at every argument the law FnCusps returns true,and its arguments read as before. No condition.
-/
import Derived.Test.YtgcnemkhppkkcaaRows
import Derived.Conc.LeavingOf
import Derived.Test.YtgcnemkhppkkcaaV04
import Derived.WalkKit
import Derived.ProofKit
import Derived.OpenShut
import Derived.ShutString
import Derived.ChangeOld
import Derived.Below
import Derived.Test.YtgcnemkhppkkcaaV09
import Derived.Test.YtgcnemkhppkkcaaV18
import Derived.Test.YtgcnemkhppkkcaaV17
import Derived.Test.YtgcnemkhppkkcaaV15
import Derived.Test.YtgcnemkhppkkcaaV12
import Derived.Test.YtgcnemkhppkkcaaV07
namespace Go.Proofs.Ytgcnemkhppkkcaa.fnCusps
open Go.ChangeShapes Go.WideShapes Go.ChangeAt Go.RowKit
open Go.ChangeMaps (open_string shut_string)
open mem ints arr sf pm permOk permOf fns mat gl cur lw
open Go.Proofs.Ytgcnemkhppkkcaa.sq (AR.one AR.push)
set_option linter.unusedVariables false
set_option maxRecDepth 100000
theorem own:ownKnob Try.prog.godebug = none:=by kernel_rfl
theorem laidOut:laidOutB Try.prog = true:=by kernel_rfl
set_option maxRecDepth 100000 in
set_option maxHeartbeats 4000000 in
theorem walk (w:World) (A:Option Addr) (n c:Nat) (l:List Int) (rd:Rd w w.heap.size A n (U l)) (cn:n<=c) (cm:c<=maxLen) (el:Bytes l) :
  Calls sqp.prog 7 #[.slice A n c] w fun e w'=>e = .returned (.bool true)/\Below w.heap.size w w':=by
 have RD:=Lib.hid rd;have EL:=Lib.hid el;clear rd el
 unfold maxLen at cm
 by_cases b0:1048576 < n
 ·clear RD EL
  go_enter sqp.func7,sqp.ntmps7
  go_wp2_with fail
  go_ret
  exact ⟨rfl,Below.refl _ _⟩
 have hd0:decide (1048576 < (n:Int)) = false:=by simp;omega
 have HC:=Lib.hid (cur.Code.mk RD.out EL.out (by omega));clear RD EL
 have BB:=Lib.hid (Below.refl w.heap.size w)
 go_enter sqp.func7,sqp.ntmps7
 go_wp2_with fail
 refine (mk.few_any _ _ A n c l HC.out).mono ?_
 rintro e w1_ ⟨v,r,u,N,hN,sf,rfl,sv,b1⟩
 have SFs:=Lib.hid sf;clear sf
 have N1:1<=N:=SFs.out.pos
 obtain ⟨Ps,cs,Qs,ds,rfl⟩:=sv.lens SFs.out.lr SFs.out.lu
 have NR:=Lib.hid sv;clear sv
 have s1:=b1.size
 replace BB:=Lib.hid (BB.out.trans (b1.mono BB.out.size))
 clear b1
 have Vs:=NR;clear NR
 go_wp2_with (refine wpList_store_row rfl 25 _ _ rfl w1_.heap.size #[.slice Ps N cs,.slice Qs N ds] rfl rfl 25 #[.slice none 0 0,.slice none 0 0] (Arr.new w1_ [.slice none 0 0,.slice none 0 0] _ rfl) size2 rfl (by simp [Value.oneCell']) ?_;generalize hw:(w1_.alloc (.cells #[.slice none 0 0,.slice none 0 0] 25)).setRow w1_.heap.size #[.slice Ps N cs,.slice Qs N ds] = w2_;have NB:Hid (Arr w2_ w1_.heap.size [.slice Ps N cs,.slice Qs N ds] 25):=Lib.hid (by rw [<-hw];exact (Arr.new w1_ [.slice none 0 0,.slice none 0 0] _ rfl).row);have b1:Below w1_.heap.size w1_ w2_:=(by rw [<-hw];exact below_setRow ((Below.refl _ _).alloc (Nat.le_refl _) _) (Nat.le_refl _) _);have t2:w1_.heap.size + 1<=w2_.heap.size:=(by rw [<-hw];simp);clear hw;have s2:=b1.size;replace Vs:=Lib.hid (Vs.out.keep b1 Vs.out.top);replace BB:=Lib.hid (BB.out.trans (b1.mono BB.out.size));clear b1;have Bs:=NB;clear NB;have Bs_0:=Bs.out.cell (k:=0) rfl;have Bs_1:=Bs.out.cell (k:=1) rfl)
 obtain ⟨k,m,fcu⟩:=orb.fcu_ok SFs.out hN
 have FC:=Lib.hid fcu;clear fcu
 have k1:=FC.out.k1;have k2:=FC.out.k2;have m1:=FC.out.n1
 go_wp2_with fail
 refine (orb.cu_impl (.agg #[.slice Ps N cs,.slice Qs N ds]) r u _ _ Vs.out.rd (by rw [SFs.out.lr];omega) (by rw [SFs.out.lu];omega)).mono ?_
 rintro e w3_ ⟨CA,cc,rfl,rc,hcc,b1⟩
 rw [FC.out.ok]
 have Rc:=Lib.hid rc;clear rc
 have c1:=FC.out.len;have c2:=FC.out.le
 have CSUM:=Lib.hid FC.out.sum;have CTK:=Lib.hid FC.out.tk;have CHAS:=Lib.hid FC.out.has;have CSP:=Lib.hid FC.out.sp;have CLS:=Lib.hid FC.out.ls;have CDV:=Lib.hid FC.out.dv
 have CBK:=Lib.hid FC.out.back;have CNO:=Lib.hid FC.out.no;clear FC
 generalize orb.cuL r u = C at *
 generalize hNC:C.length = NC at *
 have LNC:=Lib.hid hNC;clear hNC
 have s3:=b1.size
 replace Vs:=Lib.hid (Vs.out.keep b1 Vs.out.top)
 replace Bs:=Lib.hid (Bs.out.keep b1 Bs.out.lt)
 replace BB:=Lib.hid (BB.out.trans (b1.mono BB.out.size))
 clear b1
 clear Bs_0 Bs_1
 have Bs_0:=Bs.out.cell (k:=0) rfl
 have Bs_1:=Bs.out.cell (k:=1) rfl
 go_wp2_with fail
 refine (orb.sp_impl (.agg #[.slice Ps N cs,.slice Qs N ds]) r u _ _ Vs.out.rd (by rw [SFs.out.lr];omega) (by rw [SFs.out.lu];omega)).mono ?_
 rintro e w4_ ⟨rfl,b1⟩
 rw [CSP.out]
 have s4:=b1.size
 replace Vs:=Lib.hid (Vs.out.keep b1 Vs.out.top)
 replace Bs:=Lib.hid (Bs.out.keep b1 Bs.out.lt)
 replace Rc:=Lib.hid (Rc.out.keep b1 Rc.out.2.1)
 replace BB:=Lib.hid (BB.out.trans (b1.mono BB.out.size))
 clear b1
 clear Bs_0 Bs_1
 have Bs_0:=Bs.out.cell (k:=0) rfl
 have Bs_1:=Bs.out.cell (k:=1) rfl
 go_wp2_with fail
 refine (cy.ls_impl (.agg #[.slice Ps N cs,.slice Qs N ds]) r u _ _ Vs.out.rd (by rw [SFs.out.lr];omega) (by rw [SFs.out.lu];omega)).mono ?_
 rintro e w5_ ⟨rfl,b1⟩
 rw [CLS.out]
 have s5:=b1.size
 replace Vs:=Lib.hid (Vs.out.keep b1 Vs.out.top)
 replace Bs:=Lib.hid (Bs.out.keep b1 Bs.out.lt)
 replace Rc:=Lib.hid (Rc.out.keep b1 Rc.out.2.1)
 replace BB:=Lib.hid (BB.out.trans (b1.mono BB.out.size))
 clear b1
 clear Bs_0 Bs_1
 have Bs_0:=Bs.out.cell (k:=0) rfl
 have Bs_1:=Bs.out.cell (k:=1) rfl
 clear CSP CLS
 go_wp2_with fail
 refine wp_region_held_drew (S:=Hld w5_.heap.size w5_.heap.size w5_ [(w1_.heap.size,[.slice Ps N cs,.slice Qs N ds])]) (by kernel_rfl) (Hld.start1 Bs.out) (fun hHeld=>?_)
 have b1:Below w5_.heap.size w5_ w5_.drew:=⟨rfl,rfl,rfl,Nat.le_refl _,fun _ _=>rfl⟩
 generalize w5_.drew = w6_ at *
 have s6:=b1.size
 replace Vs:=Lib.hid (Vs.out.keep b1 Vs.out.top)
 replace Bs:=Lib.hid (Bs.out.keep b1 Bs.out.lt)
 replace Rc:=Lib.hid (Rc.out.keep b1 Rc.out.2.1)
 replace BB:=Lib.hid (BB.out.trans (b1.mono BB.out.size))
 clear b1
 clear Bs_0 Bs_1
 have Bs_0:=Bs.out.cell (k:=0) rfl
 have Bs_1:=Bs.out.cell (k:=1) rfl
 have hz1:((NC:Int) == 0) = false:=by simp;omega
 have hz2:decide ((k:Int) < 1) = false:=by simp;omega
 have hz3:decide (120 < (k:Int)) = false:=by simp;omega
 have hz4:decide ((m:Int) < 1) = false:=by simp;omega
 have hz5:¬ (k:Int) = 0:=by omega
 have hz6:(m:Int).tmod (k:Int) = 0:=by rw [Int.tmod_eq_emod_of_nonneg (by omega),<-Int.natCast_emod,CDV.out];rfl
 refine wpAnyH_take (i:=0) (v:=.bool true) rfl (by kernel_rfl) (by kernel_rfl) (by kernel_rfl) (fun _ _ _ h=>h) (Or.inl ⟨by kernel_rfl,fun w hSw=>by go_simp⟩) hHeld ?_
 refine wpAnyH_take (i:=1) (v:=.bool false) rfl (by kernel_rfl) (by kernel_rfl) (by kernel_rfl) (fun _ _ _ h=>h) (Or.inl ⟨by kernel_rfl,fun w hSw=>by go_simp⟩) hHeld ?_
 refine wpAnyH_take (i:=2) (v:=.bool false) rfl (by kernel_rfl) (by kernel_rfl) (by kernel_rfl) (fun _ _ _ h=>h) (Or.inl ⟨by kernel_rfl,fun w hSw=>by go_simp⟩) hHeld ?_
 refine wpAnyH_take (i:=3) (v:=.slice CA NC cc) rfl (by kernel_rfl) (by kernel_rfl) (by kernel_rfl) (fun _ _ _ h=>h) (Or.inl ⟨by kernel_rfl,fun w hSw=>by go_simp⟩) hHeld ?_
 refine wpAnyH_take (i:=5) (v:=.agg #[.slice Ps N cs,.slice Qs N ds]) rfl (by kernel_rfl) (by kernel_rfl) (by kernel_rfl) (fun _ _ _ h=>h) (Or.inl ⟨by kernel_rfl,fun w hSw=>by have h0:=hSw.c0;have h1:=hSw.c1;go_simp⟩) hHeld ?_
 refine wpAnyH_ready (rs:=[4]) (by kernel_rfl) (by simp) (AllReadyH.cons rfl (fun K' hK=>?_) AllReadyH.nil)
 go_simp
 refine (th.total_any CA NC cc C _ _ Rc.out.rd (by omega) CTK.out).mono ?_
 rintro e w7_ ⟨rfl,b1⟩
 rw [CSUM.out]
 have hHeld2:=hHeld.later b1 (by omega);clear hHeld
 have s7:=b1.size
 replace Vs:=Lib.hid (Vs.out.keep b1 Vs.out.top)
 replace Bs:=Lib.hid (Bs.out.keep b1 Bs.out.lt)
 replace Rc:=Lib.hid (Rc.out.keep b1 Rc.out.2.1)
 replace BB:=Lib.hid (BB.out.trans (b1.mono BB.out.size))
 clear b1
 clear Bs_0 Bs_1
 have Bs_0:=Bs.out.cell (k:=0) rfl
 have Bs_1:=Bs.out.cell (k:=1) rfl
 go_wp2_with fail
 refine hK.out _ _ hHeld2 (fun hHeld=>?_)
 clear hK K' hHeld2
 refine wpAnyH_ready (rs:=[6]) (by kernel_rfl) (by simp) (AllReadyH.cons rfl (fun K' hK=>?_) AllReadyH.nil)
 go_simp
 refine (orb.idx_impl (.agg #[.slice Ps N cs,.slice Qs N ds]) r u _ _ Vs.out.rd (by rw [SFs.out.lr];omega) (by rw [SFs.out.lu];omega)).mono ?_
 rintro e w8_ ⟨rfl,b1⟩
 clear CSUM CTK
 generalize orb.idxF r u = D at *
 have hz0:(D != D) = false:=by simp
 have hHeld2:=hHeld.later b1 (by omega);clear hHeld
 have s8:=b1.size
 replace Vs:=Lib.hid (Vs.out.keep b1 Vs.out.top)
 replace Bs:=Lib.hid (Bs.out.keep b1 Bs.out.lt)
 replace Rc:=Lib.hid (Rc.out.keep b1 Rc.out.2.1)
 replace BB:=Lib.hid (BB.out.trans (b1.mono BB.out.size))
 clear b1
 clear Bs_0 Bs_1
 have Bs_0:=Bs.out.cell (k:=0) rfl
 have Bs_1:=Bs.out.cell (k:=1) rfl
 go_wp2_with fail
 refine hK.out _ _ hHeld2 (fun hHeld=>?_)
 clear hK K' hHeld2
 refine wpAnyH_take (i:=7) (v:=.bool false) rfl (by kernel_rfl) (by kernel_rfl) (by kernel_rfl) (fun _ _ _ h=>h) (Or.inl ⟨by kernel_rfl,fun w hSw=>by go_simp⟩) hHeld ?_
 refine wpAnyH_take (i:=8) (v:=.bool false) rfl (by kernel_rfl) (by kernel_rfl) (by kernel_rfl) (fun _ _ _ h=>h) (Or.inl ⟨by kernel_rfl,fun w hSw=>by go_simp⟩) hHeld ?_
 refine wpAnyH_take (i:=9) (v:=.bool false) rfl (by kernel_rfl) (by kernel_rfl) (by kernel_rfl) (fun _ _ _ h=>h) (Or.inl ⟨by kernel_rfl,fun w hSw=>by go_simp⟩) hHeld ?_
 refine wpAnyH_take (i:=10) (v:=.slice CA NC cc) rfl (by kernel_rfl) (by kernel_rfl) (by kernel_rfl) (fun _ _ _ h=>h) (Or.inl ⟨by kernel_rfl,fun w hSw=>by go_simp⟩) hHeld ?_
 refine wpAnyH_take (i:=11) (v:=.int .i64 (NC:Int)) rfl (by kernel_rfl) (by kernel_rfl) (by kernel_rfl) (fun _ _ _ h=>h) (Or.inl ⟨by kernel_rfl,fun w hSw=>by go_simp⟩) hHeld ?_
 refine wpAnyH_take (i:=12) (v:=.bool false) rfl (by kernel_rfl) (by kernel_rfl) (by kernel_rfl) (fun _ _ _ h=>h) (Or.inl ⟨by kernel_rfl,fun w hSw=>by go_simp⟩) hHeld ?_
 refine wpAnyH_take (i:=13) (v:=.bool false) rfl (by kernel_rfl) (by kernel_rfl) (by kernel_rfl) (fun _ _ _ h=>h) (Or.inl ⟨by kernel_rfl,fun w hSw=>by go_simp⟩) hHeld ?_
 refine wpAnyH_take (i:=14) (v:=.bool false) rfl (by kernel_rfl) (by kernel_rfl) (by kernel_rfl) (fun _ _ _ h=>h) (Or.inl ⟨by kernel_rfl,fun w hSw=>by go_simp⟩) hHeld ?_
 refine wpAnyH_take (i:=15) (v:=.int .i64 (k:Int)) rfl (by kernel_rfl) (by kernel_rfl) (by kernel_rfl) (fun _ _ _ h=>h) (Or.inl ⟨by kernel_rfl,fun w hSw=>by go_simp⟩) hHeld ?_
 refine wpAnyH_take (i:=16) (v:=.bool false) rfl (by kernel_rfl) (by kernel_rfl) (by kernel_rfl) (fun _ _ _ h=>h) (Or.inl ⟨by kernel_rfl,fun w hSw=>by go_simp⟩) hHeld ?_
 refine wpAnyH_take (i:=17) (v:=.bool false) rfl (by kernel_rfl) (by kernel_rfl) (by kernel_rfl) (fun _ _ _ h=>h) (Or.inl ⟨by kernel_rfl,fun w hSw=>by go_simp⟩) hHeld ?_
 refine wpAnyH_take (i:=18) (v:=.bool false) rfl (by kernel_rfl) (by kernel_rfl) (by kernel_rfl) (fun _ _ _ h=>h) (Or.inl ⟨by kernel_rfl,fun w hSw=>by go_simp⟩) hHeld ?_
 refine wpAnyH_take (i:=19) (v:=.int .i64 (k:Int)) rfl (by kernel_rfl) (by kernel_rfl) (by kernel_rfl) (fun _ _ _ h=>h) (Or.inl ⟨by kernel_rfl,fun w hSw=>by go_simp⟩) hHeld ?_
 refine wpAnyH_take (i:=20) (v:=.bool false) rfl (by kernel_rfl) (by kernel_rfl) (by kernel_rfl) (fun _ _ _ h=>h) (Or.inl ⟨by kernel_rfl,fun w hSw=>by go_simp⟩) hHeld ?_
 refine wpAnyH_take (i:=21) (v:=.bool false) rfl (by kernel_rfl) (by kernel_rfl) (by kernel_rfl) (fun _ _ _ h=>h) (Or.inl ⟨by kernel_rfl,fun w hSw=>by go_simp⟩) hHeld ?_
 refine wpAnyH_take (i:=22) (v:=.bool false) rfl (by kernel_rfl) (by kernel_rfl) (by kernel_rfl) (fun _ _ _ h=>h) (Or.inl ⟨by kernel_rfl,fun w hSw=>by go_simp⟩) hHeld ?_
 refine wpAnyH_take (i:=23) (v:=.int .i64 (m:Int)) rfl (by kernel_rfl) (by kernel_rfl) (by kernel_rfl) (fun _ _ _ h=>h) (Or.inl ⟨by kernel_rfl,fun w hSw=>by go_simp⟩) hHeld ?_
 refine wpAnyH_take (i:=24) (v:=.bool false) rfl (by kernel_rfl) (by kernel_rfl) (by kernel_rfl) (fun _ _ _ h=>h) (Or.inl ⟨by kernel_rfl,fun w hSw=>by go_simp⟩) hHeld ?_
 refine wpAnyH_take (i:=25) (v:=.bool false) rfl (by kernel_rfl) (by kernel_rfl) (by kernel_rfl) (fun _ _ _ h=>h) (Or.inl ⟨by kernel_rfl,fun w hSw=>by go_simp⟩) hHeld ?_
 refine wpAnyH_take (i:=26) (v:=.bool false) rfl (by kernel_rfl) (by kernel_rfl) (by kernel_rfl) (fun _ _ _ h=>h) (Or.inl ⟨by kernel_rfl,fun w hSw=>by go_simp⟩) hHeld ?_
 refine wpAnyH_take (i:=27) (v:=.int .i64 (m:Int)) rfl (by kernel_rfl) (by kernel_rfl) (by kernel_rfl) (fun _ _ _ h=>h) (Or.inl ⟨by kernel_rfl,fun w hSw=>by go_simp⟩) hHeld ?_
 refine wpAnyH_take (i:=28) (v:=.int .i64 (k:Int)) rfl (by kernel_rfl) (by kernel_rfl) (by kernel_rfl) (fun _ _ _ h=>h) (Or.inl ⟨by kernel_rfl,fun w hSw=>by go_simp⟩) hHeld ?_
 refine wpAnyH_take (i:=29) (v:=.int .i64 0) rfl (by kernel_rfl) (by kernel_rfl) (by kernel_rfl) (fun _ _ _ h=>h) (Or.inl ⟨by kernel_rfl,fun w hSw=>by go_simp;omega⟩) hHeld ?_
 refine wpAnyH_take (i:=30) (v:=.bool false) rfl (by kernel_rfl) (by kernel_rfl) (by kernel_rfl) (fun _ _ _ h=>h) (Or.inl ⟨by kernel_rfl,fun w hSw=>by go_simp⟩) hHeld ?_
 refine wpAnyH_take (i:=31) (v:=.bool false) rfl (by kernel_rfl) (by kernel_rfl) (by kernel_rfl) (fun _ _ _ h=>h) (Or.inl ⟨by kernel_rfl,fun w hSw=>by go_simp⟩) hHeld ?_
 refine wpAnyH_take (i:=32) (v:=.bool false) rfl (by kernel_rfl) (by kernel_rfl) (by kernel_rfl) (fun _ _ _ h=>h) (Or.inl ⟨by kernel_rfl,fun w hSw=>by go_simp⟩) hHeld ?_
 refine wpAnyH_take (i:=33) (v:=.slice CA NC cc) rfl (by kernel_rfl) (by kernel_rfl) (by kernel_rfl) (fun _ _ _ h=>h) (Or.inl ⟨by kernel_rfl,fun w hSw=>by go_simp⟩) hHeld ?_
 refine wpAnyH_take (i:=34) (v:=.int .i64 (k:Int)) rfl (by kernel_rfl) (by kernel_rfl) (by kernel_rfl) (fun _ _ _ h=>h) (Or.inl ⟨by kernel_rfl,fun w hSw=>by go_simp⟩) hHeld ?_
 refine wpAnyH_ready (rs:=[35]) (by kernel_rfl) (by simp) (AllReadyH.cons rfl (fun K' hK=>?_) AllReadyH.nil)
 go_simp
 refine (th.has_any CA NC cc C k _ _ Rc.out.rd (by omega)).mono ?_
 rintro e w9_ ⟨rfl,b1⟩
 rw [show decide ((k:Int) ∈ C) = true from decide_eq_true CHAS.out]
 have hHeld2:=hHeld.later b1 (by omega);clear hHeld
 have s9:=b1.size
 replace Vs:=Lib.hid (Vs.out.keep b1 Vs.out.top)
 replace Bs:=Lib.hid (Bs.out.keep b1 Bs.out.lt)
 replace Rc:=Lib.hid (Rc.out.keep b1 Rc.out.2.1)
 replace BB:=Lib.hid (BB.out.trans (b1.mono BB.out.size))
 clear b1
 clear Bs_0 Bs_1
 have Bs_0:=Bs.out.cell (k:=0) rfl
 have Bs_1:=Bs.out.cell (k:=1) rfl
 go_wp2_with fail
 refine hK.out _ _ hHeld2 (fun hHeld=>?_)
 clear hK K' hHeld2
 refine wpAnyH_take (i:=36) (v:=.bool false) rfl (by kernel_rfl) (by kernel_rfl) (by kernel_rfl) (fun _ _ _ h=>h) (Or.inl ⟨by kernel_rfl,fun w hSw=>by go_simp⟩) hHeld ?_
 refine wpAnyH_take (i:=37) (v:=.bool false) rfl (by kernel_rfl) (by kernel_rfl) (by kernel_rfl) (fun _ _ _ h=>h) (Or.inl ⟨by kernel_rfl,fun w hSw=>by go_simp⟩) hHeld ?_
 refine wpAnyH_done (by kernel_rfl) ?_ _
 clear hHeld hz0 hz1 hz2 hz3 hz4 hz5 hz6 CHAS CDV Rc LNC
 dsimp only [List.getElem_toArray,List.getElem_cons_zero,List.getElem_cons_succ]
 go_simp
 go_wp2_with (refine wpList_store_row rfl 25 _ _ rfl w9_.heap.size #[.slice Ps N cs,.slice Qs N ds] rfl rfl 25 #[.slice none 0 0,.slice none 0 0] (Arr.new w9_ [.slice none 0 0,.slice none 0 0] _ rfl) size2 rfl (by simp [Value.oneCell']) ?_;generalize hw:(w9_.alloc (.cells #[.slice none 0 0,.slice none 0 0] 25)).setRow w9_.heap.size #[.slice Ps N cs,.slice Qs N ds] = w10_;have NB:Hid (Arr w10_ w9_.heap.size [.slice Ps N cs,.slice Qs N ds] 25):=Lib.hid (by rw [<-hw];exact (Arr.new w9_ [.slice none 0 0,.slice none 0 0] _ rfl).row);have b1:Below w9_.heap.size w9_ w10_:=(by rw [<-hw];exact below_setRow ((Below.refl _ _).alloc (Nat.le_refl _) _) (Nat.le_refl _) _);have t10:w9_.heap.size + 1<=w10_.heap.size:=(by rw [<-hw];simp);clear hw;have s10:=b1.size;replace Vs:=Lib.hid (Vs.out.keep b1 Vs.out.top);replace Bs:=Lib.hid (Bs.out.keep b1 Bs.out.lt);replace BB:=Lib.hid (BB.out.trans (b1.mono BB.out.size));clear b1 Bs_0 Bs_1)
 generalize hbx:w9_.heap.size = bx at *
 generalize hbs:w1_.heap.size = bs at *
 have CS0:Hid (orb.Cst (r,u) N w w10_ bs bx Ps Qs cs ds (.slice Ps N cs,.slice Qs N ds) 0):=Lib.hid ⟨Bs.out,NB.out,⟨_,_,Vs.out,by omega⟩,⟨_,_,_,_,_,_,rfl,Vs.out⟩,BB.out,by omega,by omega⟩
 clear Vs Bs BB NB hbx hbs HC
 clear s3 s4 s5 s6 s7 s8 s9 s10 t10 hd0
 go_loopw [9] (fun i wr=>∃ (j:Nat) (x:Value × Value),j<=k/\i = .int .i64 j/\orb.Cst (r,u) N w wr bs bx Ps Qs cs ds x j) (fun i _=>k - (intOf i).toNat)
 case atStart=>exact ⟨0,_,Nat.zero_le _,rfl,CS0.out⟩
 case round =>
  obtain ⟨j,x,hj,rfl,hg⟩:=hrel
  have PR:=Lib.hid hg;clear hg CS0
  obtain ⟨lx,hx,P',Q',cx,dx,rfl,svx⟩:=PR.out.snd
  obtain ⟨l1,h1,svf,hl1⟩:=PR.out.fst
  have SX:=Lib.hid svx;have SF:=Lib.hid svf;clear svx svf
  have KS:=Lib.hid (orb.shN_sf (s:=(r,u)) SFs.out j)
  have lt3:=PR.out.boxs.lt;have lt4:=PR.out.boxx.lt
  have hlt:=PR.out.lt;have hlt2:=PR.out.lt2
  have Bs_0:=PR.out.boxs.cell (k:=0) rfl;have Bs_1:=PR.out.boxs.cell (k:=1) rfl;have Bx_0:=PR.out.boxx.cell (k:=0) rfl;have Bx_1:=PR.out.boxx.cell (k:=1) rfl
  by_cases hjk:j < k
  ·by_cases hj0:j = 0
   ·subst hj0
    go_wp2_with fail
    refine (la.sh_impl (.agg #[.slice P' N cx,.slice Q' N dx]) _ _ _ _ SX.out.rd (by rw [KS.out.lr];omega) (by rw [KS.out.lu];omega)).mono ?_
    rintro e wy ⟨g,rfl,sg,b1⟩
    rw [orb.tr_of KS.out]
    have KS2:=Lib.hid (orb.shN_sf (s:=(r,u)) SFs.out (0 + 1))
    rw [(orb.sh_fst KS.out).1,(orb.sh_fst KS.out).2] at sg
    have sg2:Svl wy _ wy.heap.size g (orb.shN (0 + 1) (r,u)).1 (orb.shN (0 + 1) (r,u)).2:=sg
    obtain ⟨P9,c9,Q9,d9,rfl⟩:=sg2.lens KS2.out.lr KS2.out.lu
    have P9G:=Lib.hid (PR.out.keep b1);have SG9:=Lib.hid sg2
    have s9:=b1.size
    clear b1 sg sg2 SX SF PR Bs_0 Bs_1 Bx_0 Bx_1
    go_wp2_with (first | (refine wpList_store_row rfl 25 _ _ rfl wy.heap.size #[.slice P9 N c9,.slice Q9 N d9] rfl rfl 25 #[.slice none 0 0,.slice none 0 0] (Arr.new wy [.slice none 0 0,.slice none 0 0] _ rfl) size2 rfl (by simp [Value.oneCell']) ?_;generalize hw:(wy.alloc (.cells #[.slice none 0 0,.slice none 0 0] 25)).setRow wy.heap.size #[.slice P9 N c9,.slice Q9 N d9] = wz;have By:Hid (Arr wz wy.heap.size [.slice P9 N c9,.slice Q9 N d9] 25):=Lib.hid (by rw [<-hw];exact (Arr.new wy [.slice none 0 0,.slice none 0 0] _ rfl).row);have b1:Below wy.heap.size wy wz:=(by rw [<-hw];exact below_setRow ((Below.refl _ _).alloc (Nat.le_refl _) _) (Nat.le_refl _) _);have tz:wy.heap.size + 1<=wz.heap.size:=(by rw [<-hw];simp);clear hw;have PZ:=Lib.hid (P9G.out.keep b1);have SGZ:=Lib.hid (SG9.out.keep b1 (Nat.le_refl _));clear b1 P9G SG9;have By_0:=By.out.cell (k:=0) rfl;have By_1:=By.out.cell (k:=1) rfl) | (refine wpList_store_row rfl 25 _ _ rfl bx #[.slice P9 N c9,.slice Q9 N d9] rfl rfl 25 #[.slice P' N cx,.slice Q' N dx] PZ.out.boxx size2 rfl (by simp [Value.oneCell']) ?_;have hPN:=PZ.out.put SGZ.out (by omega);generalize wz.setRow bx #[.slice P9 N c9,.slice Q9 N d9] = W at hPN ⊢;have PN:=Lib.hid hPN;clear hPN PZ SGZ By By_0 By_1))
    go_roundw
    case rel=>exact ⟨0 + 1,_,by omega,by go_num,PN.out⟩
    case measure=>simp [intOf];omega
   ·have hd1:decide (0 < (j:Int)) = true:=by simp;omega
    have hno:=orb.iso_no KS.out SFs.out (CNO.out j (by omega) hjk)
    have HNO:=Lib.hid hno;clear hno
    go_wp2_with fail
    refine (iso_impl (.agg #[.slice P' N cx,.slice Q' N dx]) _ _ (.agg #[.slice Ps N cs,.slice Qs N ds]) r u _ _ _ SX.out.rd SF.out.rd (by rw [KS.out.lr];omega) (by rw [KS.out.lu];omega) (by rw [SFs.out.lr];omega) (by rw [SFs.out.lu];omega)).mono ?_
    rintro e wv ⟨rfl,b1⟩
    rw [HNO.out]
    have PV:=Lib.hid (PR.out.keep b1);have SXV:=Lib.hid (SX.out.keep b1 SX.out.top);have SFV:=Lib.hid (SF.out.keep b1 SF.out.top)
    have sv:=b1.size
    clear b1 PR SX SF Bs_0 Bs_1 Bx_0 Bx_1 HNO lt3 lt4
    have PR:=PV;have SX:=SXV;have SF:=SFV;clear PV SXV SFV
    have lt3:=PR.out.boxs.lt;have lt4:=PR.out.boxx.lt
    have Bs_0:=PR.out.boxs.cell (k:=0) rfl;have Bs_1:=PR.out.boxs.cell (k:=1) rfl;have Bx_0:=PR.out.boxx.cell (k:=0) rfl;have Bx_1:=PR.out.boxx.cell (k:=1) rfl
    go_wp2_with fail
    refine (la.sh_impl (.agg #[.slice P' N cx,.slice Q' N dx]) _ _ _ _ SX.out.rd (by rw [KS.out.lr];omega) (by rw [KS.out.lu];omega)).mono ?_
    rintro e wy ⟨g,rfl,sg,b1⟩
    rw [orb.tr_of KS.out]
    have KS2:=Lib.hid (orb.shN_sf (s:=(r,u)) SFs.out (j + 1))
    rw [(orb.sh_fst KS.out).1,(orb.sh_fst KS.out).2] at sg
    have sg2:Svl wy _ wy.heap.size g (orb.shN (j + 1) (r,u)).1 (orb.shN (j + 1) (r,u)).2:=sg
    obtain ⟨P9,c9,Q9,d9,rfl⟩:=sg2.lens KS2.out.lr KS2.out.lu
    have P9G:=Lib.hid (PR.out.keep b1);have SG9:=Lib.hid sg2
    have s9:=b1.size
    clear b1 sg sg2 SX SF PR Bs_0 Bs_1 Bx_0 Bx_1
    go_wp2_with (first | (refine wpList_store_row rfl 25 _ _ rfl wy.heap.size #[.slice P9 N c9,.slice Q9 N d9] rfl rfl 25 #[.slice none 0 0,.slice none 0 0] (Arr.new wy [.slice none 0 0,.slice none 0 0] _ rfl) size2 rfl (by simp [Value.oneCell']) ?_;generalize hw:(wy.alloc (.cells #[.slice none 0 0,.slice none 0 0] 25)).setRow wy.heap.size #[.slice P9 N c9,.slice Q9 N d9] = wz;have By:Hid (Arr wz wy.heap.size [.slice P9 N c9,.slice Q9 N d9] 25):=Lib.hid (by rw [<-hw];exact (Arr.new wy [.slice none 0 0,.slice none 0 0] _ rfl).row);have b1:Below wy.heap.size wy wz:=(by rw [<-hw];exact below_setRow ((Below.refl _ _).alloc (Nat.le_refl _) _) (Nat.le_refl _) _);have tz:wy.heap.size + 1<=wz.heap.size:=(by rw [<-hw];simp);clear hw;have PZ:=Lib.hid (P9G.out.keep b1);have SGZ:=Lib.hid (SG9.out.keep b1 (Nat.le_refl _));clear b1 P9G SG9;have By_0:=By.out.cell (k:=0) rfl;have By_1:=By.out.cell (k:=1) rfl) | (refine wpList_store_row rfl 25 _ _ rfl bx #[.slice P9 N c9,.slice Q9 N d9] rfl rfl 25 #[.slice P' N cx,.slice Q' N dx] PZ.out.boxx size2 rfl (by simp [Value.oneCell']) ?_;have hPN:=PZ.out.put SGZ.out (by omega);generalize wz.setRow bx #[.slice P9 N c9,.slice Q9 N d9] = W at hPN ⊢;have PN:=Lib.hid hPN;clear hPN PZ SGZ By By_0 By_1))
    go_roundw
    case rel=>exact ⟨j + 1,_,by omega,by go_num,PN.out⟩
    case measure=>simp [intOf];omega
  ·obtain rfl:j = k:=by omega
   have HYES:=Lib.hid (orb.iso_cn KS.out SFs.out CBK.out)
   go_wp2_with fail
   refine (iso_impl (.agg #[.slice P' N cx,.slice Q' N dx]) _ _ (.agg #[.slice Ps N cs,.slice Qs N ds]) r u _ _ _ SX.out.rd SF.out.rd (by rw [KS.out.lr];omega) (by rw [KS.out.lu];omega) (by rw [SFs.out.lr];omega) (by rw [SFs.out.lu];omega)).mono ?_
   rintro e wv ⟨rfl,b1⟩
   rw [HYES.out]
   go_wp2_with fail
   go_ret
   exact ⟨rfl,PR.out.bel.trans (b1.mono PR.out.bel.size)⟩
set_option maxRecDepth 100000 in
theorem lifted (os:Os) (started:os.Started) (H:Type) (enc:TypeId × Value->H) :
  ReturnsInLeavingWide {} Try.checked os 7 .any (Rows.fnCuspsSpec.pre6 enc Try.prog Try.f7 Rows.fnCuspsRow.domain false) (Rows.fnCuspsSpec.post enc Try.prog Try.f7 false true false false):=by
 refine returnsInLeavingWide_of_change_sized (C:=Try.checked) own started Try.func7
  (ChangeSpec.witness6 (enc:=enc) (C:=Try.checked) false ⟨#[],#[.slice none 0 0],[]⟩ 8 (by kernel_rfl) (by kernel_rfl) (by kernel_rfl) (by kernel_rfl)) ?_
 intro W base args ds gs before hval0 hW hcnd _ _
 have hval:∀ (j:Nat) t v,Try.f7.params[j]? = some t->args[j]? = some v->Value.okWide Try.prog W .any base t v:=hval0
 have hW':=hW
 obtain ⟨p,q,hA0,hV,rfl,hfz,hnd⟩:=hW
 have hA:DataW.TrodAll enc Try.prog W 0 (fun _=>true) true Try.f7.params.toList args.toList ds p:=hA0
 rw [Try.params7] at hA hval
 obtain ⟨v0,vs0,d0,ds0,p0,q0,hargs,rfl,rfl,h0,r0⟩:=trodAll_cons hA
 obtain ⟨rfl,rfl,rfl⟩:=trodAll_nil r0
 obtain rfl:args = #[v0]:=by cases args;simp_all
 obtain ⟨rfl,rfl⟩:=trodVars_none hV
 obtain ⟨A0,n0,c0,rfl⟩:=okWide_slice Try.underlying22 (hval 0 22 v0 rfl rfl)
 have lt0:∀ x ∈ p0,x.block < W.heap.size:=by obtain ⟨m,hm⟩:=h0;exact DataW.trod_lt m _ _ _ hm
 obtain ⟨x0,rd0,cn0,cm0,el0⟩:=open_B Try.underlying22 Try.underlying5 (by kernel_rfl) h0
 clear hA0 hval0
 obtain ⟨m0,A0q,wn0,sr0⟩:=sqb.bytes_new (sq.wn_nil W) rd0 (hval 0 22 _ rfl rfl)
 have q0q:=sr0 #[]
 rw [Array.append_empty] at q0q
 obtain ⟨M,last,oc,wl,tl,k1,k2,k3,k4⟩:=sqw.run (g:=7) (by decide +kernel) (args:=#[.slice A0q n0 c0]) (args':=#[.slice A0 n0 c0]) (ws:=#[] ++ m0) wn0 (fun C=>@AR.one C _ _ _ (q0q.2.1 C)) (fun C=>@AR.one C _ _ _ (q0q.2.2 C))
  (fun τ=>(walk (w:=sq.retape τ (sq.wnW W (#[] ++ m0))) A0q n0 c0 x0 (q0q.1 τ) cn0 cm0 el0).mono fun e w' he=>he.1)
 refine ⟨M,last,oc,wl,tl,k1,k2,k3,k4.mono fun v ⟨hv,bel⟩=>?_⟩
 subst hv
 exact ⟨_,_,_,[],_,[],hW',trodAll_mk1 (shut_bool Try.underlying4 _),(trodAll_cons_mk (Below.trod laidOut (by kernel_rfl) (of_decide_eq_true (by kernel_rfl)) h0 bel lt0) trodAll_mk0),rfl,bel.frame _,fun h=>by cases h⟩
theorem over:Rows.fnCuspsRow.holds Try.pinned (OpenSpec.ofChange Rows.fnCuspsSpec) :=
 OpenClaim.holds_of_wide_leaving 7 Try.f7 rfl rfl rfl rfl rfl rfl rfl ⟨rfl,rfl,rfl,rfl,rfl⟩ rfl rfl rfl rfl rfl (by kernel_rfl) Try.func7 (by kernel_rfl)
  (of_decide_eq_true (by kernel_rfl)) (by unfold Func.isWrapper;first | (rw [if_pos (by decide +kernel)];kernel_rfl) | (rw [if_neg (by decide +kernel)];exact ⟨rfl,rfl⟩))
  (fun os started H enc _=>lifted os started H enc)
theorem proved:Rows.FnCuspsSaid :=
 over
#print axioms proved
end Go.Proofs.Ytgcnemkhppkkcaa.fnCusps
