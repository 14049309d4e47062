/-
  FnExactSurfacesWith: at every argument the law FnExactSurfacesWith returns true, and its arguments read as before. No condition.
-/
import Derived.Test.YtafpbnjfmieamaaRows
import Derived.WalkKit
import Derived.ProofKit
import Derived.OpenShut
import Derived.ShutString
import Derived.ChangeOld
import Derived.Below
import Derived.Test.YtafpbnjfmieamaaY22
namespace Go.Proofs.Ytafpbnjfmieamaa.fnExactSurfacesWith
open Go.ChangeShapes Go.WideShapes Go.ChangeAt Go.RowKit
open Go.ChangeMaps (open_string shut_string)
open Go.Proofs.Ytafpbnjfmieamaa.mem Go.Proofs.Ytafpbnjfmieamaa.ints Go.Proofs.Ytafpbnjfmieamaa.arr Go.Proofs.Ytafpbnjfmieamaa.sf Go.Proofs.Ytafpbnjfmieamaa.pm Go.Proofs.Ytafpbnjfmieamaa.gl Go.Proofs.Ytafpbnjfmieamaa.orb
set_option linter.unusedVariables false
set_option maxRecDepth 100000

theorem own : ownKnob Try.prog.godebug = none := by kernel_rfl

set_option maxHeartbeats 4000000 in
theorem walk (w : World) (a0 : Int) (ha0 : (Lit.int .i64 a0).wf = true) :
    Calls Try.prog 4 #[.int .i64 a0] w fun e w' => e = .returned (.bool true) ∧ Below w.heap.size w w' := by
  obtain ⟨lo0, hi0⟩ : -9223372036854775808 ≤ a0 ∧ a0 ≤ 9223372036854775807 := by simpa [Lit.wf, IntKind.min, IntKind.max, IntKind.signed, IntKind.bits] using ha0
  clear ha0
  have BB := Lib.hid (Below.refl w.heap.size w)
  go_enter Try.func4, Try.ntmps4
  go_wp2_with fail
  refine (lst.sw_specL a0 _ lo0 hi0).mono ?_
  rintro e w1_ ⟨PRW, cRW, rfl, o1, b1⟩
  have NR := Lib.hid o1; clear o1
  have s1 := b1.size
  replace BB := Lib.hid (BB.out.trans (b1.mono BB.out.size))
  clear b1
  have RW := NR; clear NR
  go_wp2_with fail
  refine (lst.sw_implL a0 _ lo0 hi0).mono ?_
  rintro e w2_ ⟨PRG, cRG, rfl, o1, b1⟩
  have NR := Lib.hid o1; clear o1
  have s2 := b1.size
  replace RW := Lib.hid (RW.out.keep b1 RW.out.top)
  replace BB := Lib.hid (BB.out.trans (b1.mono BB.out.size))
  clear b1
  have RG := NR; clear NR
  have gl : (lst.swF a0).length ≤ 1048576 := (lst.swF_law a0).1
  have gl2 : mat.tot (flat (lst.swF a0)) ≤ 1048576 := (lst.swF_law a0).2.1
  have gl3 := Lib.hid (lst.swF_law a0).2.2
  go_wp2_with fail
  refine (eqL_any PRG (lst.swF a0).length cRG PRW (lst.swF a0).length cRW (lst.swF a0) (lst.swF a0) _ _ _ RG.out.lrd RW.out.lrd gl gl gl3.out gl3.out).mono ?_
  rintro e w3_ ⟨rfl, b1⟩
  rw [eqL_self]
  have s3 := b1.size
  replace RW := Lib.hid (RW.out.keep b1 RW.out.top)
  replace RG := Lib.hid (RG.out.keep b1 RG.out.top)
  replace BB := Lib.hid (BB.out.trans (b1.mono BB.out.size))
  clear b1
  go_wp2_with fail
  refine (markL_any PRG (lst.swF a0).length cRG (flat (lst.swF a0)) _ _ (1) _ RG.out.mat gl (by omega) (by omega) gl2).mono ?_
  rintro e w4_ ⟨rfl, rM, oM⟩
  have s4 := oM.size
  replace RW := Lib.hid (RW.out.out oM (by omega))
  replace RG := Lib.hid rM; clear rM
  replace BB := Lib.hid (BB.out.trans (oM.below (by omega) (by omega)))
  clear oM
  go_wp2_with fail
  refine (heldL_any PRG (lst.swF a0).length cRG (flat (lst.swF a0)) _ _ 1 _ RG.out gl (by omega) (by omega) gl2).mono ?_
  rintro e w5_ ⟨rfl, hd⟩
  have b1 := hd.below w4_.heap.size; clear hd
  have s5 := b1.size
  replace RW := Lib.hid (RW.out.keep b1 RW.out.top)
  replace RG := Lib.hid (RG.out.keep b1 RG.out.2.1)
  replace BB := Lib.hid (BB.out.trans (b1.mono BB.out.size))
  clear b1
  go_wp2_with fail
  refine (lst.sw_implL a0 _ lo0 hi0).mono ?_
  rintro e w6_ ⟨PRH, cRH, rfl, o1, b1⟩
  have NR := Lib.hid o1; clear o1
  have s6 := b1.size
  replace RW := Lib.hid (RW.out.keep b1 RW.out.top)
  replace RG := Lib.hid (RG.out.keep b1 RG.out.2.1)
  replace BB := Lib.hid (BB.out.trans (b1.mono BB.out.size))
  clear b1
  have RH := NR; clear NR
  go_wp2_with fail
  refine (eqL_any PRH (lst.swF a0).length cRH PRW (lst.swF a0).length cRW (lst.swF a0) (lst.swF a0) _ _ _ RH.out.lrd RW.out.lrd gl gl gl3.out gl3.out).mono ?_
  rintro e w7_ ⟨rfl, b1⟩
  rw [eqL_self]
  have s7 := b1.size
  replace RW := Lib.hid (RW.out.keep b1 RW.out.top)
  replace RG := Lib.hid (RG.out.keep b1 RG.out.2.1)
  replace RH := Lib.hid (RH.out.keep b1 RH.out.top)
  replace BB := Lib.hid (BB.out.trans (b1.mono BB.out.size))
  clear b1
  clear RH
  clear RW
  go_wp2_with fail
  refine (heldL_any PRG (lst.swF a0).length cRG (flat (lst.swF a0)) _ _ 1 _ RG.out gl (by omega) (by omega) gl2).mono ?_
  rintro e w8_ ⟨rfl, hd⟩
  have b1 := hd.below w7_.heap.size; clear hd
  have s8 := b1.size
  replace RG := Lib.hid (RG.out.keep b1 RG.out.2.1)
  replace BB := Lib.hid (BB.out.trans (b1.mono BB.out.size))
  clear b1
  go_wp2_with fail
  go_ret
  exact ⟨rfl, BB.out⟩

set_option maxRecDepth 100000 in
theorem lifted (os : Os) (started : os.Started) (H : Type) (enc : TypeId × Value → H) :
    ReturnsInHanded {} Try.checked os 4 .any (Rows.fnExactSurfacesWithSpec.pre6 enc Try.prog Try.f4 Rows.fnExactSurfacesWithRow.domain false) (Rows.fnExactSurfacesWithSpec.post enc Try.prog Try.f4 false true false false) := by
  refine returnsInHanded_of_change (C := Try.checked) own started (by kernel_rfl) Try.func4
    (ChangeSpec.witness6 (enc := enc) (C := Try.checked) false ⟨#[], #[.int .i64 0], []⟩ 8 (by kernel_rfl) (by kernel_rfl) (by kernel_rfl) (by kernel_rfl)) ?_
  intro W base args ds gs before hval0 hW hcnd _
  have hval : ∀ (j : Nat) t v, Try.f4.params[j]? = some t → args[j]? = some v → Value.okWide Try.prog W .any base t v := hval0
  have hW' := hW
  obtain ⟨p, q, hA0, hV, rfl, hfz, hnd⟩ := hW
  have hA : DataW.TrodAll enc Try.prog W 0 (fun _ => true) true Try.f4.params.toList args.toList ds p := hA0
  rw [Try.params4] at hA hval
  obtain ⟨v0, vs0, d0, ds0, p0, q0, hargs, rfl, rfl, h0, r0⟩ := trodAll_cons hA
  obtain ⟨rfl, rfl, rfl⟩ := trodAll_nil r0
  obtain rfl : args = #[v0] := by cases args; simp_all
  obtain ⟨rfl, rfl⟩ := trodVars_none hV
  obtain ⟨a0, rfl, rfl, rfl, w0⟩ := open_int Try.underlying3 (hval 0 3 v0 rfl rfl) h0
  clear hA0 hval0
  refine (walk (w := W) a0 w0).mono fun e W' ⟨he, bel⟩ => ?_
  subst he
  exact ⟨_, rfl, _, _, _, [], _, [], hW', trodAll_mk1 (shut_bool Try.underlying4 _), (trodAll_cons_mk (shut_int Try.underlying3 w0) trodAll_mk0), rfl, bel.frame _, fun h => by cases h⟩

theorem over : Rows.fnExactSurfacesWithRow.holds Try.pinned (OpenSpec.ofChange Rows.fnExactSurfacesWithSpec) :=
  OpenClaim.holds_of_wide 4 Try.f4 rfl rfl rfl rfl rfl rfl rfl ⟨rfl, rfl, rfl, rfl, rfl⟩ rfl rfl rfl rfl rfl (by kernel_rfl) Try.func4 (by kernel_rfl)
    (of_decide_eq_true (by kernel_rfl)) (by unfold Func.isWrapper; first | (rw [if_pos (by decide +kernel)]; kernel_rfl) | (rw [if_neg (by decide +kernel)]; exact ⟨rfl, rfl⟩))
    (fun os started H enc _ => lifted os started H enc)

theorem proved : Rows.FnExactSurfacesWithSaid :=
  over
#print axioms proved
end Go.Proofs.Ytafpbnjfmieamaa.fnExactSurfacesWith
