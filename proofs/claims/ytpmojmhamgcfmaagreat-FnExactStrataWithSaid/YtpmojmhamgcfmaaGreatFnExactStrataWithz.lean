/-
  FnExactStrataWith: at every argument the law FnExactStrataWith returns true, and its arguments read as before. No condition.
-/
import Derived.Test.YtpmojmhamgcfmaaGreatRows
import Derived.WalkKit
import Derived.ProofKit
import Derived.OpenShut
import Derived.ShutString
import Derived.ChangeOld
import Derived.Below
import Derived.Test.YtpmojmhamgcfmaaGreatY27
namespace Go.Proofs.YtpmojmhamgcfmaaGreat.fnExactStrataWith
open Go.ChangeShapes Go.WideShapes Go.ChangeAt Go.RowKit
open Go.ChangeMaps (open_string shut_string)
open Go.Proofs.YtpmojmhamgcfmaaGreat.mem Go.Proofs.YtpmojmhamgcfmaaGreat.ints Go.Proofs.YtpmojmhamgcfmaaGreat.arr Go.Proofs.YtpmojmhamgcfmaaGreat.sf Go.Proofs.YtpmojmhamgcfmaaGreat.pm Go.Proofs.YtpmojmhamgcfmaaGreat.gl Go.Proofs.YtpmojmhamgcfmaaGreat.mat Go.Proofs.YtpmojmhamgcfmaaGreat.fns Go.Proofs.YtpmojmhamgcfmaaGreat.orb
set_option linter.unusedVariables false
set_option maxRecDepth 100000

theorem own : ownKnob Tryz.prog.godebug = none := by kernel_rfl

set_option maxHeartbeats 4000000 in
theorem walk (w : World) (a0 : Int) (ha0 : (Lit.int .i64 a0).wf = true) :
    Calls Tryz.prog 3 #[.int .i64 a0] w fun e w' => e = .returned (.bool true) ∧ Below w.heap.size w w' := by
  obtain ⟨lo0, hi0⟩ : -9223372036854775808 ≤ a0 ∧ a0 ≤ 9223372036854775807 := by simpa [Lit.wf, IntKind.min, IntKind.max, IntKind.signed, IntKind.bits] using ha0
  clear ha0
  have BB := Lib.hid (Below.refl w.heap.size w)
  go_enter Tryz.func3, Tryz.ntmps3
  go_wp2_with fail
  refine (lst.strata_spec' a0 _ lo0 hi0).mono ?_
  rintro e w1_ ⟨PRW, cRW, rfl, o1, b1⟩
  have NR := Lib.hid o1; clear o1
  have s1 := b1.size
  replace BB := Lib.hid (BB.out.trans (b1.mono BB.out.size))
  clear b1
  have RW := NR; clear NR
  go_wp2_with fail
  refine (lst.strata_impl' a0 _ lo0 hi0).mono ?_
  rintro e w2_ ⟨PRG, cRG, rfl, o1, b1⟩
  have NR := Lib.hid o1; clear o1
  have s2 := b1.size
  replace RW := Lib.hid (RW.out.keep b1 RW.out.2.1)
  replace BB := Lib.hid (BB.out.trans (b1.mono BB.out.size))
  clear b1
  have RG := NR; clear NR
  have gl : (lst.stF a0).length ≤ 1048576 := (lst.stF_bnd a0).1
  have gl2 : tot (lst.stF a0) ≤ 1048576 := (lst.stF_bnd a0).2
  go_wp2_with fail
  refine (eqm_any PRG (lst.stF a0).length cRG PRW (lst.stF a0).length cRW (lst.stF a0) (lst.stF a0) _ _ _ _ _ RG.out RW.out (by omega) (by omega) gl2 gl2).mono ?_
  rintro e w3_ ⟨rfl, hd⟩
  rw [eqm_self]
  have b1 := hd.below w2_.heap.size; clear hd
  have s3 := b1.size
  replace RW := Lib.hid (RW.out.keep b1 RW.out.2.1)
  replace RG := Lib.hid (RG.out.keep b1 RG.out.2.1)
  replace BB := Lib.hid (BB.out.trans (b1.mono BB.out.size))
  clear b1
  go_wp2_with fail
  refine (markm_any PRG (lst.stF a0).length cRG _ _ _ (1) _ RG.out (by omega) (by omega) (by omega) gl2).mono ?_
  rintro e w4_ ⟨rfl, rM, oM⟩
  have s4 := oM.size
  replace RW := Lib.hid (RW.out.out oM (by omega))
  replace RG := Lib.hid rM; clear rM
  replace BB := Lib.hid (BB.out.trans (oM.below (by omega) (by omega)))
  clear oM
  go_wp2_with fail
  refine (heldm_any PRG (lst.stF a0).length cRG (lst.stF a0) _ _ 1 _ RG.out (by omega) (by omega) (by omega) gl2).mono ?_
  rintro e w5_ ⟨rfl, hd⟩
  have b1 := hd.below w4_.heap.size; clear hd
  have s5 := b1.size
  replace RW := Lib.hid (RW.out.keep b1 RW.out.2.1)
  replace RG := Lib.hid (RG.out.keep b1 RG.out.2.1)
  replace BB := Lib.hid (BB.out.trans (b1.mono BB.out.size))
  clear b1
  go_wp2_with fail
  refine (lst.strata_impl' a0 _ lo0 hi0).mono ?_
  rintro e w6_ ⟨PRH, cRH, rfl, o1, b1⟩
  have NR := Lib.hid o1; clear o1
  have s6 := b1.size
  replace RW := Lib.hid (RW.out.keep b1 RW.out.2.1)
  replace RG := Lib.hid (RG.out.keep b1 RG.out.2.1)
  replace BB := Lib.hid (BB.out.trans (b1.mono BB.out.size))
  clear b1
  have RH := NR; clear NR
  go_wp2_with fail
  refine (eqm_any PRH (lst.stF a0).length cRH PRW (lst.stF a0).length cRW (lst.stF a0) (lst.stF a0) _ _ _ _ _ RH.out RW.out (by omega) (by omega) gl2 gl2).mono ?_
  rintro e w7_ ⟨rfl, hd⟩
  rw [eqm_self]
  have b1 := hd.below w6_.heap.size; clear hd
  have s7 := b1.size
  replace RW := Lib.hid (RW.out.keep b1 RW.out.2.1)
  replace RG := Lib.hid (RG.out.keep b1 RG.out.2.1)
  replace RH := Lib.hid (RH.out.keep b1 RH.out.2.1)
  replace BB := Lib.hid (BB.out.trans (b1.mono BB.out.size))
  clear b1
  clear RH
  clear RW
  go_wp2_with fail
  refine (heldm_any PRG (lst.stF a0).length cRG (lst.stF a0) _ _ 1 _ RG.out (by omega) (by omega) (by omega) gl2).mono ?_
  rintro e w8_ ⟨rfl, hd⟩
  have b1 := hd.below w7_.heap.size; clear hd
  have s8 := b1.size
  replace RG := Lib.hid (RG.out.keep b1 RG.out.2.1)
  replace BB := Lib.hid (BB.out.trans (b1.mono BB.out.size))
  clear b1
  go_wp2_with fail
  go_ret
  exact ⟨rfl, BB.out⟩

set_option maxRecDepth 100000 in
theorem lifted (os : Os) (started : os.Started) (H : Type) (enc : TypeId × Value → H) :
    ReturnsInHanded {} Tryz.checked os 3 .any (Rows.fnExactStrataWithSpec.pre6 enc Tryz.prog Tryz.f3 Rows.fnExactStrataWithRow.domain false) (Rows.fnExactStrataWithSpec.post enc Tryz.prog Tryz.f3 false true false false) := by
  refine returnsInHanded_of_change (C := Tryz.checked) own started (by kernel_rfl) Tryz.func3
    (ChangeSpec.witness6 (enc := enc) (C := Tryz.checked) false ⟨#[], #[.int .i64 0], []⟩ 8 (by kernel_rfl) (by kernel_rfl) (by kernel_rfl) (by kernel_rfl)) ?_
  intro W base args ds gs before hval0 hW hcnd _
  have hval : ∀ (j : Nat) t v, Tryz.f3.params[j]? = some t → args[j]? = some v → Value.okWide Tryz.prog W .any base t v := hval0
  have hW' := hW
  obtain ⟨p, q, hA0, hV, rfl, hfz, hnd⟩ := hW
  have hA : DataW.TrodAll enc Tryz.prog W 0 (fun _ => true) true Tryz.f3.params.toList args.toList ds p := hA0
  rw [Tryz.params3] at hA hval
  obtain ⟨v0, vs0, d0, ds0, p0, q0, hargs, rfl, rfl, h0, r0⟩ := trodAll_cons hA
  obtain ⟨rfl, rfl, rfl⟩ := trodAll_nil r0
  obtain rfl : args = #[v0] := by cases args; simp_all
  obtain ⟨rfl, rfl⟩ := trodVars_none hV
  obtain ⟨a0, rfl, rfl, rfl, w0⟩ := open_int Tryz.underlying3 (hval 0 3 v0 rfl rfl) h0
  clear hA0 hval0
  refine (walk (w := W) a0 w0).mono fun e W' ⟨he, bel⟩ => ?_
  subst he
  exact ⟨_, rfl, _, _, _, [], _, [], hW', trodAll_mk1 (shut_bool Tryz.underlying4 _), (trodAll_cons_mk (shut_int Tryz.underlying3 w0) trodAll_mk0), rfl, bel.frame _, fun h => by cases h⟩

theorem over : Rows.fnExactStrataWithRow.holds Tryz.pinned (OpenSpec.ofChange Rows.fnExactStrataWithSpec) :=
  OpenClaim.holds_of_wide 3 Tryz.f3 rfl rfl rfl rfl rfl rfl rfl ⟨rfl, rfl, rfl, rfl, rfl⟩ rfl rfl rfl rfl rfl (by kernel_rfl) Tryz.func3 (by kernel_rfl)
    (of_decide_eq_true (by kernel_rfl)) (by unfold Func.isWrapper; first | (rw [if_pos (by decide +kernel)]; kernel_rfl) | (rw [if_neg (by decide +kernel)]; exact ⟨rfl, rfl⟩))
    (fun os started H enc _ => lifted os started H enc)

theorem proved : Rows.FnExactStrataWithSaid :=
  over
#print axioms proved
end Go.Proofs.YtpmojmhamgcfmaaGreat.fnExactStrataWith
