/-
  FnExactRatioOk: at every argument the law FnExactRatioOk returns true, and its arguments read as before. No condition.
-/
import Derived.Test.YtngglhbcpeigcaaRows
import Derived.WalkKit
import Derived.ProofKit
import Derived.OpenShut
import Derived.ShutString
import Derived.ChangeOld
import Derived.Below
import Derived.Test.YtngglhbcpeigcaaY02
import Derived.Test.YtngglhbcpeigcaaY08
import Derived.Test.YtngglhbcpeigcaaY11
namespace Go.Proofs.Ytngglhbcpeigcaa.fnExactRatioOk
open Go.ChangeShapes Go.WideShapes Go.ChangeAt Go.RowKit
open Go.ChangeMaps (open_string shut_string)
open Go.Proofs.Ytngglhbcpeigcaa.mem Go.Proofs.Ytngglhbcpeigcaa.ints Go.Proofs.Ytngglhbcpeigcaa.arr Go.Proofs.Ytngglhbcpeigcaa.rat
set_option linter.unusedVariables false
set_option maxRecDepth 100000

theorem own : ownKnob Try.prog.godebug = none := by kernel_rfl
theorem laidOut : laidOutB Try.prog = true := by kernel_rfl

set_option maxHeartbeats 1000000 in
theorem walk (w : World) (x0 y0 : Int) (lx0 : i64 x0 ∧ i64 y0) :
    Calls Try.prog 4 #[.agg #[.int .i64 x0, .int .i64 y0]] w fun e w' => e = .returned (.bool true) ∧ Below w.heap.size w w' := by
  obtain ⟨⟨x1, x2⟩, y1, y2⟩ := lx0
  go_enter Try.func4, Try.ntmps4
  go_wp2_with fail
  generalize hw1 : w.alloc (.cells #[.int .i64 x0, .int .i64 y0] 41) = w1
  have A0 : Hid (Arr w1 w.heap.size [.int .i64 x0, .int .i64 y0] 41) := Lib.hid (by rw [← hw1]; exact (Arr.new w _ _ rfl))
  have BB : Hid (Below w.heap.size w w1) := Lib.hid (by rw [← hw1]; exact (Below.refl _ _).alloc (Nat.le_refl _) _)
  clear hw1
  refine (toR_any x0 y0 _).mono ?_
  rintro e w2 ⟨rfl, b1⟩
  replace A0 := Lib.hid (A0.out.keep b1 A0.out.lt)
  replace BB := Lib.hid (BB.out.trans (b1.mono BB.out.size)); clear b1
  go_wp2_with fail
  refine (rok_spec x0 y0 _ x1 x2 y1 y2).mono ?_
  rintro e w3 ⟨rfl, b1⟩
  replace A0 := Lib.hid (A0.out.keep b1 A0.out.lt)
  replace BB := Lib.hid (BB.out.trans (b1.mono BB.out.size)); clear b1
  have h0 := A0.out.cell (k := 0) rfl; have h1 := A0.out.cell (k := 1) rfl
  go_wp2_with fail
  refine (toR_any x0 y0 _).mono ?_
  rintro e w4 ⟨rfl, b1⟩
  replace BB := Lib.hid (BB.out.trans (b1.mono BB.out.size)); clear b1 h0 h1 A0
  go_wp2_with fail
  refine (rok_impl x0 y0 _ x1 x2 y1 y2).mono ?_
  rintro e w5 ⟨rfl, b1⟩
  replace BB := Lib.hid (BB.out.trans (b1.mono BB.out.size)); clear b1
  generalize okR x0 y0 = q at *
  have hqq : (q != q) = false := by simp
  go_wp2_with fail
  go_ret
  exact ⟨rfl, BB.out⟩

set_option maxRecDepth 100000 in
theorem lifted (os : Os) (started : os.Started) (H : Type) (enc : TypeId × Value → H) :
    ReturnsInHanded {} Try.checked os 4 .any (Rows.fnExactRatioOkSpec.pre6 enc Try.prog Try.f4 Rows.fnExactRatioOkRow.domain false) (Rows.fnExactRatioOkSpec.post enc Try.prog Try.f4 false true false false) := by
  refine returnsInHanded_of_change (C := Try.checked) own started (by kernel_rfl) Try.func4
    (ChangeSpec.witness6 (enc := enc) (C := Try.checked) false ⟨#[], #[.agg #[.int .i64 0, .int .i64 0]], []⟩ 8 (by kernel_rfl) (by kernel_rfl) (by kernel_rfl) (by kernel_rfl)) ?_
  intro W base args ds gs before hval0 hW hcnd _
  have hval : ∀ (j : Nat) t v, Try.f4.params[j]? = some t → args[j]? = some v → Value.okWide Try.prog W .any base t v := hval0
  have hW' := hW
  obtain ⟨p, q, hA0, hV, rfl, hfz, hnd⟩ := hW
  have hA : DataW.TrodAll enc Try.prog W 0 (fun _ => true) true Try.f4.params.toList args.toList ds p := hA0
  rw [Try.params4] at hA hval
  obtain ⟨v0, vs0, d0, ds0, p0, q0, hargs, rfl, rfl, h0, r0⟩ := trodAll_cons hA
  obtain ⟨rfl, rfl, rfl⟩ := trodAll_nil r0
  obtain rfl : args = #[v0] := by cases args; simp_all
  obtain ⟨rfl, rfl⟩ := trodVars_none hV
  have lt0 : ∀ x ∈ p0, x.block < W.heap.size := by obtain ⟨m, hm⟩ := h0; exact DataW.trod_lt m _ _ _ hm
  obtain ⟨x0, y0, rfl, lx0⟩ := rat.open_R Try.underlying41 (by kernel_rfl) (by kernel_rfl) Try.underlying3 Try.underlying3 (hval 0 41 v0 rfl rfl) h0
  clear hA0 hval0
  refine (walk (w := W) x0 y0 lx0).mono fun e W' ⟨he, bel⟩ => ?_
  subst he
  exact ⟨_, rfl, _, _, _, [], _, [], hW', trodAll_mk1 (shut_bool Try.underlying4 _), (trodAll_cons_mk (Below.trod laidOut (by kernel_rfl) (of_decide_eq_true (by kernel_rfl)) h0 bel lt0) trodAll_mk0), rfl, bel.frame _, fun h => by cases h⟩

theorem over : Rows.fnExactRatioOkRow.holds Try.pinned (OpenSpec.ofChange Rows.fnExactRatioOkSpec) :=
  OpenClaim.holds_of_wide 4 Try.f4 rfl rfl rfl rfl rfl rfl rfl ⟨rfl, rfl, rfl, rfl, rfl⟩ rfl rfl rfl rfl rfl (by kernel_rfl) Try.func4 (by kernel_rfl)
    (of_decide_eq_true (by kernel_rfl)) (by unfold Func.isWrapper; first | (rw [if_pos (by decide +kernel)]; kernel_rfl) | (rw [if_neg (by decide +kernel)]; exact ⟨rfl, rfl⟩))
    (fun os started H enc _ => lifted os started H enc)

theorem proved : Rows.FnExactRatioOkSaid :=
  over
#print axioms proved
end Go.Proofs.Ytngglhbcpeigcaa.fnExactRatioOk
