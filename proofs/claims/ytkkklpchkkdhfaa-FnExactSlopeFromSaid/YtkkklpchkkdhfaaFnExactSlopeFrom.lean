/-
  FnExactSlopeFrom: at every argument the law FnExactSlopeFrom returns true, and its arguments read as before. No condition.
-/
import Derived.Test.YtkkklpchkkdhfaaRows
import Derived.WalkKit
import Derived.ProofKit
import Derived.OpenShut
import Derived.ShutString
import Derived.ChangeOld
import Derived.Below
import Derived.Test.YtkkklpchkkdhfaaRg
import Derived.Test.YtkkklpchkkdhfaaUz
namespace Go.Proofs.Ytkkklpchkkdhfaa.fnExactSlopeFrom
open Go.ChangeShapes Go.WideShapes Go.ChangeAt Go.RowKit
open Go.ChangeMaps (open_string shut_string)
open Go.Proofs.Ytkkklpchkkdhfaa.mem Go.Proofs.Ytkkklpchkkdhfaa.ints Go.Proofs.Ytkkklpchkkdhfaa.arr Go.Proofs.Ytkkklpchkkdhfaa.sf Go.Proofs.Ytkkklpchkkdhfaa.pm Go.Proofs.Ytkkklpchkkdhfaa.gl Go.Proofs.Ytkkklpchkkdhfaa.fns Go.Proofs.Ytkkklpchkkdhfaa.dr Go.Proofs.Ytkkklpchkkdhfaa.pth
set_option linter.unusedVariables false
set_option maxRecDepth 100000

theorem own : ownKnob Try.prog.godebug = none := by kernel_rfl

set_option maxHeartbeats 4000000 in
theorem walk (w : World) (a0 : ByteArray) (ws0 : a0.size ≤ maxLen) :
    Calls Try.prog 10 #[.string a0] w fun e w' => e = .returned (.bool true) ∧ Below w.heap.size w w' := by
  unfold maxLen at ws0
  by_cases z0 : 1048576 < a0.size
  · go_enter Try.func10, Try.ntmps10
    go_wp2_with fail
    go_ret
    exact ⟨rfl, Below.refl _ _⟩
  have BB := Lib.hid (Below.refl w.heap.size w)
  go_enter Try.func10, Try.ntmps10
  go_wp2_with fail
  refine (sf_spec a0 _ (by omega)).mono ?_
  rintro e w1_ ⟨rfl, b1⟩
  have s1 := b1.size
  replace BB := Lib.hid (BB.out.trans (b1.mono BB.out.size))
  clear b1
  go_wp2_with fail
  refine (sf_impl a0 _ (by omega)).mono ?_
  rintro e w2_ ⟨rfl, b1⟩
  have s2 := b1.size
  replace BB := Lib.hid (BB.out.trans (b1.mono BB.out.size))
  clear b1
  generalize sfX a0 = qx at *
  generalize sfY a0 = qy at *
  generalize sfB a0 = qb at *
  have h1 : (qx != qx) = false := by simp
  have h2 : (qy != qy) = false := by simp
  have h3 : (qb != qb) = false := by simp
  go_wp2_with fail
  go_ret
  exact ⟨rfl, BB.out⟩

set_option maxRecDepth 100000 in
theorem lifted (os : Os) (started : os.Started) (H : Type) (enc : TypeId × Value → H) :
    ReturnsInHanded {} Try.checked os 10 .any (Rows.fnExactSlopeFromSpec.pre6 enc Try.prog Try.f10 Rows.fnExactSlopeFromRow.domain false) (Rows.fnExactSlopeFromSpec.post enc Try.prog Try.f10 false true false false) := by
  refine returnsInHanded_of_change (C := Try.checked) own started (by kernel_rfl) Try.func10
    (ChangeSpec.witness6 (enc := enc) (C := Try.checked) false ⟨#[], #[.string ByteArray.empty], []⟩ 8 (by kernel_rfl) (by kernel_rfl) (by kernel_rfl) (by kernel_rfl)) ?_
  intro W base args ds gs before hval0 hW hcnd _
  have hval : ∀ (j : Nat) t v, Try.f10.params[j]? = some t → args[j]? = some v → Value.okWide Try.prog W .any base t v := hval0
  have hW' := hW
  obtain ⟨p, q, hA0, hV, rfl, hfz, hnd⟩ := hW
  have hA : DataW.TrodAll enc Try.prog W 0 (fun _ => true) true Try.f10.params.toList args.toList ds p := hA0
  rw [Try.params10] at hA hval
  obtain ⟨v0, vs0, d0, ds0, p0, q0, hargs, rfl, rfl, h0, r0⟩ := trodAll_cons hA
  obtain ⟨rfl, rfl, rfl⟩ := trodAll_nil r0
  obtain rfl : args = #[v0] := by cases args; simp_all
  obtain ⟨rfl, rfl⟩ := trodVars_none hV
  obtain ⟨a0, rfl, rfl, rfl, w0⟩ := open_string Try.underlying9 (hval 0 9 v0 rfl rfl) h0
  clear hA0 hval0
  refine (walk (w := W) a0 w0).mono fun e W' ⟨he, bel⟩ => ?_
  subst he
  exact ⟨_, rfl, _, _, _, [], _, [], hW', trodAll_mk1 (shut_bool Try.underlying4 _), (trodAll_cons_mk (shut_string Try.underlying9 w0) trodAll_mk0), rfl, bel.frame _, fun h => by cases h⟩

theorem over : Rows.fnExactSlopeFromRow.holds Try.pinned (OpenSpec.ofChange Rows.fnExactSlopeFromSpec) :=
  OpenClaim.holds_of_wide 10 Try.f10 rfl rfl rfl rfl rfl rfl rfl ⟨rfl, rfl, rfl, rfl, rfl⟩ rfl rfl rfl rfl rfl (by kernel_rfl) Try.func10 (by kernel_rfl)
    (of_decide_eq_true (by kernel_rfl)) (by unfold Func.isWrapper; first | (rw [if_pos (by decide +kernel)]; kernel_rfl) | (rw [if_neg (by decide +kernel)]; exact ⟨rfl, rfl⟩))
    (fun os started H enc _ => lifted os started H enc)

theorem proved : Rows.FnExactSlopeFromSaid :=
  over
#print axioms proved
end Go.Proofs.Ytkkklpchkkdhfaa.fnExactSlopeFrom
