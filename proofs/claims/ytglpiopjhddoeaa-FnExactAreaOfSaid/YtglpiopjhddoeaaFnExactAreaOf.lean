/-
  FnExactAreaOf: at every argument the law FnExactAreaOf returns true, and its arguments read as before. No condition.
-/
import Derived.Test.YtglpiopjhddoeaaRows
import Derived.Test.YtglpiopjhddoeaaKb
import Derived.WalkKit
import Derived.ProofKit
import Derived.OpenShut
import Derived.ShutString
import Derived.ChangeOld
import Derived.Below
namespace Go.Proofs.Ytglpiopjhddoeaa.fnExactAreaOf
open Go.ChangeShapes Go.WideShapes Go.ChangeAt Go.RowKit
open Go.ChangeMaps (open_string shut_string)
open Go.Proofs.Ytglpiopjhddoeaa.mem Go.Proofs.Ytglpiopjhddoeaa.ints Go.Proofs.Ytglpiopjhddoeaa.cy
set_option linter.unusedVariables false
set_option maxRecDepth 100000

theorem own : ownKnob Try.prog.godebug = none := by kernel_rfl
theorem laidOut : laidOutB Try.prog = true := by kernel_rfl

set_option maxHeartbeats 1600000 in
theorem walk (w : World) (A0 : Option Addr) (n0 c0 : Nat) (x0 : List Cy) (rd0 : Crd w w.heap.size A0 n0 x0) (cn0 : n0 ≤ c0) (cm0 : c0 ≤ maxLen) :
    Calls Try.prog 7 #[.slice A0 n0 c0] w fun e w' => e = .returned (.bool true) ∧ Below w.heap.size w w' := by
  have RD0 := Lib.hid rd0; clear rd0; unfold maxLen at cm0
  have BB := Lib.hid (Below.refl w.heap.size w)
  go_enter Try.func7, Try.ntmps7
  go_wp2_with fail
  refine (szC_any A0 n0 c0 1048576 _ (by omega) (by omega) (by omega)).mono ?_
  rintro e w1_ ⟨rfl, b1⟩
  by_cases z0 : (1048576 : Int) < (n0 : Int)
  · rw [if_pos z0]
    go_wp2_with fail
    go_ret
    exact ⟨rfl, BB.out.trans b1⟩
  rw [if_neg z0]
  have zz0 : decide ((1048576 : Int) - n0 < 0) = false := by simp; omega
  have s1 := b1.size
  replace BB := Lib.hid (BB.out.trans b1)
  clear b1
  go_wp2_with fail
  refine (toC_any A0 n0 c0 x0 _ _ (RD0.out.keep BB.out (Nat.le_refl _)) (by omega)).mono ?_
  rintro e w2_ ⟨rfl, o1, b1⟩
  have RS := Lib.hid o1; clear o1
  have s2 := b1.size
  replace BB := Lib.hid (BB.out.trans (b1.mono BB.out.size))
  clear b1
  go_wp2_with fail
  refine (area_spec _ n0 n0 x0 _ _ RS.out.rd (by omega)).mono ?_
  rintro e w3_ ⟨rfl, b1⟩
  have s3 := b1.size
  replace BB := Lib.hid (BB.out.trans (b1.mono BB.out.size))
  clear b1 RS
  go_wp2_with fail
  refine (toC_any A0 n0 c0 x0 _ _ (RD0.out.keep BB.out (Nat.le_refl _)) (by omega)).mono ?_
  rintro e w4_ ⟨rfl, o1, b1⟩
  have RX := Lib.hid o1; clear o1
  have s4 := b1.size
  replace BB := Lib.hid (BB.out.trans (b1.mono BB.out.size))
  clear b1
  go_wp2_with fail
  refine (area_impl _ n0 n0 x0 _ _ RX.out.rd (by omega)).mono ?_
  rintro e w5_ ⟨rfl, b1⟩
  have s5 := b1.size
  replace RX := Lib.hid (RX.out.keep b1 RX.out.top)
  replace BB := Lib.hid (BB.out.trans (b1.mono BB.out.size))
  clear b1
  have hqq : ((areaF x0) != (areaF x0)) = false := by simp
  go_wp2_with fail
  refine (toC_any A0 n0 c0 x0 _ _ (RD0.out.keep BB.out (Nat.le_refl _)) (by omega)).mono ?_
  rintro e w6_ ⟨rfl, o1, b1⟩
  have RT := Lib.hid o1; clear o1
  have s6 := b1.size
  replace RX := Lib.hid (RX.out.keep b1 RX.out.top)
  replace BB := Lib.hid (BB.out.trans (b1.mono BB.out.size))
  clear b1
  go_wp2_with fail
  refine (eqC_any _ n0 n0 _ n0 n0 x0 x0 _ _ _ RX.out.rd RT.out.rd (by omega) (by omega)).mono ?_
  rintro e w7_ ⟨rfl, b1⟩
  have s7 := b1.size
  rw [eqc_self]
  replace BB := Lib.hid (BB.out.trans (b1.mono BB.out.size))
  clear b1
  go_wp2_with fail
  go_ret
  exact ⟨rfl, BB.out⟩

set_option maxRecDepth 100000 in
theorem lifted (os : Os) (started : os.Started) (H : Type) (enc : TypeId × Value → H) :
    ReturnsInHanded {} Try.checked os 7 .any (Rows.fnExactAreaOfSpec.pre6 enc Try.prog Try.f7 Rows.fnExactAreaOfRow.domain false) (Rows.fnExactAreaOfSpec.post enc Try.prog Try.f7 false true false false) := by
  refine returnsInHanded_of_change (C := Try.checked) own started (by kernel_rfl) Try.func7
    (ChangeSpec.witness6 (enc := enc) (C := Try.checked) false ⟨#[], #[.slice none 0 0], []⟩ 8 (by kernel_rfl) (by kernel_rfl) (by kernel_rfl) (by kernel_rfl)) ?_
  intro W base args ds gs before hval0 hW hcnd _
  have hval : ∀ (j : Nat) t v, Try.f7.params[j]? = some t → args[j]? = some v → Value.okWide Try.prog W .any base t v := hval0
  have hW' := hW
  obtain ⟨p, q, hA0, hV, rfl, hfz, hnd⟩ := hW
  have hA : DataW.TrodAll enc Try.prog W 0 (fun _ => true) true Try.f7.params.toList args.toList ds p := hA0
  rw [Try.params7] at hA hval
  obtain ⟨v0, vs0, d0, ds0, p0, q0, hargs, rfl, rfl, h0, r0⟩ := trodAll_cons hA
  obtain ⟨rfl, rfl, rfl⟩ := trodAll_nil r0
  obtain rfl : args = #[v0] := by cases args; simp_all
  obtain ⟨rfl, rfl⟩ := trodVars_none hV
  obtain ⟨A0, n0, c0, rfl⟩ := okWide_slice Try.underlying48 (hval 0 48 v0 rfl rfl)
  have lt0 : ∀ x ∈ p0, x.block < W.heap.size := by obtain ⟨m, hm⟩ := h0; exact DataW.trod_lt m _ _ _ hm
  obtain ⟨x0, rd0, cn0, cm0⟩ := open_Z Try.underlying48 Try.underlying83 (by kernel_rfl) rfl rfl (by kernel_rfl) (by kernel_rfl) Try.underlying3 Try.underlying3 h0
  clear hA0 hval0
  refine (walk (w := W) A0 n0 c0 x0 rd0 cn0 cm0).mono fun e W' ⟨he, bel⟩ => ?_
  subst he
  exact ⟨_, rfl, _, _, _, [], _, [], hW', trodAll_mk1 (shut_bool Try.underlying4 _), (trodAll_cons_mk (Below.trod laidOut (by kernel_rfl) (of_decide_eq_true (by kernel_rfl)) h0 bel lt0) trodAll_mk0), rfl, bel.frame _, fun h => by cases h⟩

theorem over : Rows.fnExactAreaOfRow.holds Try.pinned (OpenSpec.ofChange Rows.fnExactAreaOfSpec) :=
  OpenClaim.holds_of_wide 7 Try.f7 rfl rfl rfl rfl rfl rfl rfl ⟨rfl, rfl, rfl, rfl, rfl⟩ rfl rfl rfl rfl rfl (by kernel_rfl) Try.func7 (by kernel_rfl)
    (of_decide_eq_true (by kernel_rfl)) (by unfold Func.isWrapper; first | (rw [if_pos (by decide +kernel)]; kernel_rfl) | (rw [if_neg (by decide +kernel)]; exact ⟨rfl, rfl⟩))
    (fun os started H enc _ => lifted os started H enc)

theorem proved : Rows.FnExactAreaOfSaid :=
  over
#print axioms proved
end Go.Proofs.Ytglpiopjhddoeaa.fnExactAreaOf
