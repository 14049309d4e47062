/-
  FnExactBallOk: at every argument the law FnExactBallOk returns true, and its arguments read as before. No condition.
-/
import Derived.Test.YtajkfkpnjbkhhaaRows
import Derived.WalkKit
import Derived.ProofKit
import Derived.OpenShut
import Derived.ShutString
import Derived.ChangeOld
import Derived.Below
import Derived.Test.YtajkfkpnjbkhhaaYz
import Derived.Test.YtajkfkpnjbkhhaaYd
namespace Go.Proofs.Ytajkfkpnjbkhhaa.fnExactBallOk
open Go.ChangeShapes Go.WideShapes Go.ChangeAt Go.RowKit
open Go.ChangeMaps (open_string shut_string)
open Go.Proofs.Ytajkfkpnjbkhhaa.mem Go.Proofs.Ytajkfkpnjbkhhaa.ints Go.Proofs.Ytajkfkpnjbkhhaa.arr Go.Proofs.Ytajkfkpnjbkhhaa.sf Go.Proofs.Ytajkfkpnjbkhhaa.pm Go.Proofs.Ytajkfkpnjbkhhaa.bal
set_option linter.unusedVariables false
set_option maxRecDepth 100000

theorem own : ownKnob Try.prog.godebug = none := by kernel_rfl
theorem laidOut : laidOutB Try.prog = true := by kernel_rfl

set_option maxHeartbeats 4000000 in
theorem walk (w : World) (a0 a1 : Int) (x2 : mx.Mx) (ha0 : (Lit.int .i64 a0).wf = true) (ha1 : (Lit.int .i64 a1).wf = true) (lx2 : mx.Fit x2) :
    Calls Try.prog 4 #[.int .i64 a0, .int .i64 a1, mx.mv x2] w fun e w' => e = .returned (.bool true) ∧ Below w.heap.size w w' := by
  have FA := mx.fit1 ha0; have FB := mx.fit1 ha1; have FX := Lib.hid lx2
  clear ha0 ha1 lx2
  have HA := Lib.hid FA; have HB := Lib.hid FB
  clear FA FB
  unfold mx.mv
  go_enter Try.func4, Try.ntmps4
  go_wp2_with fail
  generalize hw1 : w.alloc (.cells #[.int .i64 x2.1, .int .i64 x2.2.1, .int .i64 x2.2.2.1, .int .i64 x2.2.2.2] 37) = w1
  have A0 : Hid (Arr w1 w.heap.size (V (be x2)) 37) := Lib.hid (by rw [← hw1]; exact (Arr.new w _ _ rfl))
  have BB : Hid (Below w.heap.size w w1) := Lib.hid (by rw [← hw1]; exact (Below.refl _ _).alloc (Nat.le_refl _) _)
  clear hw1
  refine (toB_any x2 _).mono ?_
  rintro e w2 ⟨rfl, b1⟩
  replace A0 := Lib.hid (A0.out.keep b1 A0.out.lt)
  replace BB := Lib.hid (BB.out.trans (b1.mono BB.out.size))
  clear b1
  unfold bv
  go_wp2_with fail
  refine (ok_spec a0 a1 x2 _).mono ?_
  rintro e w3 ⟨rfl, b1⟩
  replace A0 := Lib.hid (A0.out.keep b1 A0.out.lt)
  replace BB := Lib.hid (BB.out.trans (b1.mono BB.out.size))
  clear b1
  obtain ⟨q0, hq0⟩ : ∃ q, q = blB a0 a1 x2 := ⟨_, rfl⟩
  rw [← hq0]
  have HQ0 := Lib.hid hq0; clear hq0
  obtain ⟨h0, h1, h2, h3⟩ := cells_B A0.out
  go_wp2_with fail
  refine (toB_any x2 _).mono ?_
  rintro e w4 ⟨rfl, b1⟩
  replace A0 := Lib.hid (A0.out.keep b1 A0.out.lt)
  replace BB := Lib.hid (BB.out.trans (b1.mono BB.out.size))
  clear b1
  clear h0 h1 h2 h3
  unfold bv
  go_wp2_with fail
  refine (ok_impl a0 a1 x2 _ HA.out HB.out FX.out).mono ?_
  rintro e w5 ⟨rfl, b1⟩
  replace A0 := Lib.hid (A0.out.keep b1 A0.out.lt)
  replace BB := Lib.hid (BB.out.trans (b1.mono BB.out.size))
  clear b1
  rw [← HQ0.out]
  have hqq0 : (q0 != q0) = false := by simp
  go_wp2_with fail
  go_ret
  exact ⟨rfl, BB.out⟩

set_option maxRecDepth 100000 in
theorem lifted (os : Os) (started : os.Started) (H : Type) (enc : TypeId × Value → H) :
    ReturnsInHanded {} Try.checked os 4 .any (Rows.fnExactBallOkSpec.pre6 enc Try.prog Try.f4 Rows.fnExactBallOkRow.domain false) (Rows.fnExactBallOkSpec.post enc Try.prog Try.f4 false true false false) := by
  refine returnsInHanded_of_change (C := Try.checked) own started (by kernel_rfl) Try.func4
    (ChangeSpec.witness6 (enc := enc) (C := Try.checked) false ⟨#[], #[.int .i64 0, .int .i64 0, .agg #[.int .i64 0, .int .i64 0, .int .i64 0, .int .i64 0]], []⟩ 8 (by kernel_rfl) (by kernel_rfl) (by kernel_rfl) (by kernel_rfl)) ?_
  intro W base args ds gs before hval0 hW hcnd _
  have hval : ∀ (j : Nat) t v, Try.f4.params[j]? = some t → args[j]? = some v → Value.okWide Try.prog W .any base t v := hval0
  have hW' := hW
  obtain ⟨p, q, hA0, hV, rfl, hfz, hnd⟩ := hW
  have hA : DataW.TrodAll enc Try.prog W 0 (fun _ => true) true Try.f4.params.toList args.toList ds p := hA0
  rw [Try.params4] at hA hval
  obtain ⟨v0, vs0, d0, ds0, p0, q0, hargs, rfl, rfl, h0, r0⟩ := trodAll_cons hA
  obtain ⟨v1, vs1, d1, ds1, p1, q1, rfl, rfl, rfl, h1, r1⟩ := trodAll_cons r0
  obtain ⟨v2, vs2, d2, ds2, p2, q2, rfl, rfl, rfl, h2, r2⟩ := trodAll_cons r1
  obtain ⟨rfl, rfl, rfl⟩ := trodAll_nil r2
  obtain rfl : args = #[v0, v1, v2] := by cases args; simp_all
  obtain ⟨rfl, rfl⟩ := trodVars_none hV
  obtain ⟨a0, rfl, rfl, rfl, w0⟩ := open_int Try.underlying3 (hval 0 3 v0 rfl rfl) h0
  obtain ⟨a1, rfl, rfl, rfl, w1⟩ := open_int Try.underlying3 (hval 1 3 v1 rfl rfl) h1
  have lt2 : ∀ x ∈ p2, x.block < W.heap.size := by obtain ⟨m, hm⟩ := h2; exact DataW.trod_lt m _ _ _ hm
  obtain ⟨x2, rfl, lx2⟩ := mx.open_M Try.underlying37 (by kernel_rfl) (by kernel_rfl) Try.underlying3 Try.underlying3 Try.underlying3 Try.underlying3 (hval 2 37 v2 rfl rfl) h2
  clear hA0 hval0
  refine (walk (w := W) a0 a1 x2 w0 w1 lx2).mono fun e W' ⟨he, bel⟩ => ?_
  subst he
  exact ⟨_, rfl, _, _, _, [], _, [], hW', trodAll_mk1 (shut_bool Try.underlying4 _), (trodAll_cons_mk (shut_int Try.underlying3 w0) (trodAll_cons_mk (shut_int Try.underlying3 w1) (trodAll_cons_mk (Below.trod laidOut (by kernel_rfl) (of_decide_eq_true (by kernel_rfl)) h2 bel lt2) trodAll_mk0))), rfl, bel.frame _, fun h => by cases h⟩

theorem over : Rows.fnExactBallOkRow.holds Try.pinned (OpenSpec.ofChange Rows.fnExactBallOkSpec) :=
  OpenClaim.holds_of_wide 4 Try.f4 rfl rfl rfl rfl rfl rfl rfl ⟨rfl, rfl, rfl, rfl, rfl⟩ rfl rfl rfl rfl rfl (by kernel_rfl) Try.func4 (by kernel_rfl)
    (of_decide_eq_true (by kernel_rfl)) (by unfold Func.isWrapper; first | (rw [if_pos (by decide +kernel)]; kernel_rfl) | (rw [if_neg (by decide +kernel)]; exact ⟨rfl, rfl⟩))
    (fun os started H enc _ => lifted os started H enc)

theorem proved : Rows.FnExactBallOkSaid :=
  over
#print axioms proved
end Go.Proofs.Ytajkfkpnjbkhhaa.fnExactBallOk
