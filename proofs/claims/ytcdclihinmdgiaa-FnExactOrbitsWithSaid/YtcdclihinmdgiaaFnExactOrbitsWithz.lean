/-
 FnExactOrbitsWith: at every argument the law FnExactOrbitsWith returns true,and its arguments read as before. No condition.
-/
import Derived.Test.YtcdclihinmdgiaaRows
import Derived.Conc.LeavingOf
import Derived.Test.YtcdclihinmdgiaaZ05
import Derived.WalkKit
import Derived.ProofKit
import Derived.OpenShut
import Derived.ShutString
import Derived.ChangeOld
import Derived.Below
import Derived.Test.YtcdclihinmdgiaaZ27
namespace Go.Proofs.Ytcdclihinmdgiaa.fnExactOrbitsWith
open Go.ChangeShapes Go.WideShapes Go.ChangeAt Go.RowKit
open Go.ChangeMaps (open_string shut_string)
open mem ints arr sf pm gl mat fns orb
open Go.Proofs.Ytcdclihinmdgiaa.sq (AR.one AR.push)
set_option linter.unusedVariables false
set_option maxRecDepth 100000
set_option linter.unusedSimpArgs false
theorem own:ownKnob Try.prog.godebug = none:=by kernel_rfl
set_option maxHeartbeats 4000000 in
theorem walk (w:World) (a0:Int) (ha0:(Lit.int .i64 a0).wf = true) :
  Calls sqp.prog 3 #[.int .i64 a0] w fun e w'=>e = .returned (.bool true)/\Below w.heap.size w w':=by
 have FEW:=Lib.hid (lst.qyy a0)
 have TL:lst.tl (lst.orF a0)<=1048576:=FEW.out.tot
 have BB:=Lib.hid (Below.refl w.heap.size w)
 go_enter sqp.func3,sqp.ntmps3
 go_wp2_with fail
 refine (lst.qyw a0 _).mono ?_
 rintro e w1_ ⟨vv,rfl,o1,b1⟩
 obtain ⟨PRW,cRW,rfl⟩:=o1.form
 have NR:=Lib.hid o1;clear o1
 have s1:=b1.size
 replace BB:=Lib.hid (BB.out.trans (b1.mono BB.out.size))
 clear b1
 have RW:=NR;clear NR
 go_wp2_with fail
 refine (lst.qrp a0 _).mono ?_
 rintro e w2_ ⟨vv,rfl,o1,b1⟩
 obtain ⟨PRG,cRG,rfl⟩:=o1.form
 have NR:=Lib.hid o1;clear o1
 have s2:=b1.size
 replace RW:=Lib.hid (RW.out.keep b1 RW.out.top)
 replace BB:=Lib.hid (BB.out.trans (b1.mono BB.out.size))
 clear b1
 have RG:=NR;clear NR
 go_wp2_with fail
 refine (lst.qnp PRG _ cRG PRW _ cRW (lst.orF a0) (lst.orF a0) _ _ _ _ _ RG.out RW.out FEW.out FEW.out).mono ?_
 rintro e w3_ ⟨rfl,b1⟩
 rw [lst.qj6]
 have s3:=b1.size
 replace RW:=Lib.hid (RW.out.keep b1 RW.out.top)
 replace RG:=Lib.hid (RG.out.keep b1 RG.out.top)
 replace BB:=Lib.hid (BB.out.trans (b1.mono BB.out.size))
 clear b1
 go_wp2_with fail
 refine (lst.qpb _ (lst.orF a0) _ _ 1 _ (RG.out.mark 1) FEW.out (by omega) (by omega)).mono ?_
 rintro e w4_ ⟨rfl,rM,oM⟩
 have s4:=oM.size
 replace RW:=Lib.hid (RW.out.out oM (by omega))
 replace RG:=Lib.hid rM;clear rM
 replace BB:=Lib.hid (BB.out.trans (oM.below (by omega) (by omega)))
 clear oM
 go_wp2_with fail
 refine (lst.qhq _ (lst.orF a0) _ _ 1 _ RG.out FEW.out (by omega) (by omega)).mono ?_
 rintro e w5_ ⟨rfl,hd⟩
 have b1:=hd.below w4_.heap.size;clear hd
 have s5:=b1.size
 replace RW:=Lib.hid (RW.out.keep b1 RW.out.top)
 replace RG:=Lib.hid (RG.out.keep b1 RG.out.top)
 replace BB:=Lib.hid (BB.out.trans (b1.mono BB.out.size))
 clear b1
 go_wp2_with fail
 refine (lst.qrp a0 _).mono ?_
 rintro e w6_ ⟨vv,rfl,o1,b1⟩
 obtain ⟨PRH,cRH,rfl⟩:=o1.form
 have NR:=Lib.hid o1;clear o1
 have s6:=b1.size
 replace RW:=Lib.hid (RW.out.keep b1 RW.out.top)
 replace RG:=Lib.hid (RG.out.keep b1 RG.out.top)
 replace BB:=Lib.hid (BB.out.trans (b1.mono BB.out.size))
 clear b1
 have RH:=NR;clear NR
 go_wp2_with fail
 refine (lst.qnp PRH _ cRH PRW _ cRW (lst.orF a0) (lst.orF a0) _ _ _ _ _ RH.out RW.out FEW.out FEW.out).mono ?_
 rintro e w7_ ⟨rfl,b1⟩
 rw [lst.qj6]
 have s7:=b1.size
 replace RW:=Lib.hid (RW.out.keep b1 RW.out.top)
 replace RG:=Lib.hid (RG.out.keep b1 RG.out.top)
 replace RH:=Lib.hid (RH.out.keep b1 RH.out.top)
 replace BB:=Lib.hid (BB.out.trans (b1.mono BB.out.size))
 clear b1
 go_wp2_with fail
 clear RH RW
 refine (lst.qhq _ (lst.orF a0) _ _ 1 _ RG.out FEW.out (by omega) (by omega)).mono ?_
 rintro e w8_ ⟨rfl,hd⟩
 have b1:=hd.below w7_.heap.size;clear hd
 have s8:=b1.size
 replace RG:=Lib.hid (RG.out.keep b1 RG.out.top)
 replace BB:=Lib.hid (BB.out.trans (b1.mono BB.out.size))
 clear b1
 go_wp2_with fail
 go_ret
 exact ⟨rfl,BB.out⟩
set_option maxRecDepth 100000 in
theorem lifted (os:Os) (started:os.Started) (H:Type) (enc:TypeId × Value->H) :
  ReturnsInLeavingWide {} Try.checked os 3 .any (Rows.fnExactOrbitsWithSpec.pre6 enc Try.prog Try.f3 Rows.fnExactOrbitsWithRow.domain false) (Rows.fnExactOrbitsWithSpec.post enc Try.prog Try.f3 false true false false):=by
 refine returnsInLeavingWide_of_change_sized (C:=Try.checked) own started Try.func3
  (ChangeSpec.witness6 (enc:=enc) (C:=Try.checked) false ⟨#[],#[.int .i64 0],[]⟩ 8 (by kernel_rfl) (by kernel_rfl) (by kernel_rfl) (by kernel_rfl)) ?_
 intro W base args ds gs before hval0 hW hcnd _ _
 have hval:∀ (j:Nat) t v,Try.f3.params[j]? = some t->args[j]? = some v->Value.okWide Try.prog W .any base t v:=hval0
 have hW':=hW
 obtain ⟨p,q,hA0,hV,rfl,hfz,hnd⟩:=hW
 have hA:DataW.TrodAll enc Try.prog W 0 (fun _=>true) true Try.f3.params.toList args.toList ds p:=hA0
 rw [Try.params3] at hA hval
 obtain ⟨v0,vs0,d0,ds0,p0,q0,hargs,rfl,rfl,h0,r0⟩:=trodAll_cons hA
 obtain ⟨rfl,rfl,rfl⟩:=trodAll_nil r0
 obtain rfl:args = #[v0]:=by cases args;simp_all
 obtain ⟨rfl,rfl⟩:=trodVars_none hV
 obtain ⟨a0,rfl,rfl,rfl,w0⟩:=open_int Try.underlying3 (hval 0 3 v0 rfl rfl) h0
 clear hA0 hval0
 obtain ⟨M,last,oc,wl,tl,k1,k2,k3,k4⟩:=sqw.run (g:=3) (by decide +kernel) (args:=#[.int .i64 a0]) (args':=#[.int .i64 a0]) (ws:=#[]) (sq.q26 W) (fun C=>@AR.one C _ _ _ (@sq.VR.int C _ _ _)) (fun C=>@AR.one C _ _ _ (@sq.VR.int C _ _ _))
  (fun τ=>(walk (w:=sq.qj τ (sq.wnW W #[])) a0 w0).mono fun e w' he=>he.1) (.inl rfl)
 refine ⟨M,last,oc,wl,tl,k1,k2,k3,k4.mono fun v ⟨hv,bel⟩=>?_⟩
 subst hv
 exact ⟨_,_,_,[],_,[],hW',trodAll_mk1 (shut_bool Try.underlying4 _),(trodAll_cons_mk (shut_int Try.underlying3 w0) trodAll_mk0),rfl,bel.frame _,fun h=>by cases h⟩
theorem over:Rows.fnExactOrbitsWithRow.holds Try.pinned (OpenSpec.ofChange Rows.fnExactOrbitsWithSpec) :=
 OpenClaim.holds_of_wide_leaving 3 Try.f3 rfl rfl rfl rfl rfl rfl rfl ⟨rfl,rfl,rfl,rfl,rfl⟩ rfl rfl rfl rfl rfl (by kernel_rfl) Try.func3 (by kernel_rfl)
  (of_decide_eq_true (by kernel_rfl)) (by unfold Func.isWrapper;first | (rw [if_pos (by decide +kernel)];kernel_rfl) | (rw [if_neg (by decide +kernel)];exact ⟨rfl,rfl⟩))
  (fun os started H enc _=>lifted os started H enc)
theorem proved:Rows.FnExactOrbitsWithSaid :=
 over
#print axioms proved
end Go.Proofs.Ytcdclihinmdgiaa.fnExactOrbitsWith
