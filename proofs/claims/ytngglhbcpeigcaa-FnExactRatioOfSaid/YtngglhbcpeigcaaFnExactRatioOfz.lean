/-
  FnExactRatioOf: at every argument the law FnExactRatioOf returns true, and its arguments read as before. No condition.
-/
import Derived.Test.YtngglhbcpeigcaaRows
import Derived.WalkKit
import Derived.ProofKit
import Derived.OpenShut
import Derived.ShutString
import Derived.ChangeOld
import Derived.Below
import Derived.Test.YtngglhbcpeigcaaY02
import Derived.Test.YtngglhbcpeigcaaY08
import Derived.Test.YtngglhbcpeigcaaY11
namespace Go.Proofs.Ytngglhbcpeigcaa.fnExactRatioOf
open Go.ChangeShapes Go.WideShapes Go.ChangeAt Go.RowKit
open Go.ChangeMaps (open_string shut_string)
open Go.Proofs.Ytngglhbcpeigcaa.mem Go.Proofs.Ytngglhbcpeigcaa.ints Go.Proofs.Ytngglhbcpeigcaa.arr Go.Proofs.Ytngglhbcpeigcaa.rat
set_option linter.unusedVariables false
set_option maxRecDepth 100000

theorem own : ownKnob Try.prog.godebug = none := by kernel_rfl

set_option maxHeartbeats 1000000 in
theorem walk (w : World) (a0 : Int) (a1 : Int) (ha0 : (Lit.int .i64 a0).wf = true) (ha1 : (Lit.int .i64 a1).wf = true) :
    Calls Try.prog 5 #[.int .i64 a0, .int .i64 a1] w fun e w' => e = .returned (.bool true) ∧ Below w.heap.size w w' := by
  have f0 := fit1 ha0; have f1 := fit1 ha1; clear ha0 ha1
  obtain ⟨x1, x2⟩ := f0
  obtain ⟨y1, y2⟩ := f1
  go_enter Try.func5, Try.ntmps5
  go_wp2_with fail
  refine (rof_spec a0 a1 _ x1 x2 y1 y2).mono ?_
  rintro e w1 ⟨rfl, b1⟩
  have BB := Lib.hid b1; clear b1
  obtain ⟨⟨n, d⟩, hq⟩ : ∃ q, q = ofF a0 a1 := ⟨_, rfl⟩
  rw [← hq]
  have HQ := Lib.hid hq; clear hq
  unfold rv
  go_wp2_with (refine wpList_store_row rfl 24 _ _ rfl w1.heap.size #[.int .i64 n, .int .i64 d] rfl rfl 24 #[.int .i64 0, .int .i64 0] (Arr.new w1 _ _ rfl) (sizeR _ _) rfl (by simp [Value.oneCell']) ?_; generalize hw2 : (w1.alloc (.cells #[.int .i64 0, .int .i64 0] 24)).setRow w1.heap.size #[.int .i64 n, .int .i64 d] = w2; have A0 : Hid (Arr w2 w1.heap.size [.int .i64 n, .int .i64 d] 24) := Lib.hid (by rw [← hw2]; exact Arr.row (Arr.new w1 [.int .i64 0, .int .i64 0] _ rfl)); have b1 : Below w1.heap.size w1 w2 := (by rw [← hw2]; exact arr.below_setRow ((Below.refl _ _).alloc (Nat.le_refl _) _) (Nat.le_refl _) _); have s2 : w2.heap.size = w1.heap.size + 1 := (by rw [← hw2]; simp); clear hw2; replace BB := Lib.hid (BB.out.trans (b1.mono BB.out.size)); clear b1)
  refine (rof_impl a0 a1 _ x1 x2 y1 y2).mono ?_
  rintro e w3 ⟨rfl, b1⟩
  have s3 := b1.size
  replace A0 := Lib.hid (A0.out.keep b1 A0.out.lt)
  replace BB := Lib.hid (BB.out.trans (b1.mono BB.out.size)); clear b1
  rw [← HQ.out]
  unfold rv
  go_wp2_with (first | (refine wpList_store_row rfl 24 _ _ rfl w3.heap.size #[.int .i64 n, .int .i64 d] rfl rfl 24 #[.int .i64 0, .int .i64 0] (Arr.new w3 _ _ rfl) (sizeR _ _) rfl (by simp [Value.oneCell']) ?_; generalize hw4 : (w3.alloc (.cells #[.int .i64 0, .int .i64 0] 24)).setRow w3.heap.size #[.int .i64 n, .int .i64 d] = w4; have A1 : Hid (Arr w4 w3.heap.size [.int .i64 n, .int .i64 d] 24) := Lib.hid (by rw [← hw4]; exact Arr.row (Arr.new w3 [.int .i64 0, .int .i64 0] _ rfl)); have b1 : Below w3.heap.size w3 w4 := (by rw [← hw4]; exact arr.below_setRow ((Below.refl _ _).alloc (Nat.le_refl _) _) (Nat.le_refl _) _); have s4 : w4.heap.size = w3.heap.size + 1 := (by rw [← hw4]; simp); clear hw4; replace A0 := Lib.hid (A0.out.keep b1 A0.out.lt); replace BB := Lib.hid (BB.out.trans (b1.mono BB.out.size)); clear b1) | (refine wpList_load_row rfl 24 _ rfl w3.heap.size rfl 24 #[.int .i64 n, .int .i64 d] (0, 0) _ A1.out Try.underlying24 rfl (sizeR _ _) ?_) | (refine wpList_load_row rfl 24 _ rfl w1.heap.size rfl 24 #[.int .i64 n, .int .i64 d] (0, 0) _ A0.out Try.underlying24 rfl (sizeR _ _) ?_))
  refine (eqR_any n d n d _).mono ?_
  rintro e w5 ⟨rfl, b1⟩
  rw [eqd_self]
  replace BB := Lib.hid (BB.out.trans (b1.mono BB.out.size)); clear b1
  go_wp2_with fail
  go_ret
  exact ⟨rfl, BB.out⟩

set_option maxRecDepth 100000 in
theorem lifted (os : Os) (started : os.Started) (H : Type) (enc : TypeId × Value → H) :
    ReturnsInHanded {} Try.checked os 5 .any (Rows.fnExactRatioOfSpec.pre6 enc Try.prog Try.f5 Rows.fnExactRatioOfRow.domain false) (Rows.fnExactRatioOfSpec.post enc Try.prog Try.f5 false true false false) := by
  refine returnsInHanded_of_change (C := Try.checked) own started (by kernel_rfl) Try.func5
    (ChangeSpec.witness6 (enc := enc) (C := Try.checked) false ⟨#[], #[.int .i64 0, .int .i64 0], []⟩ 8 (by kernel_rfl) (by kernel_rfl) (by kernel_rfl) (by kernel_rfl)) ?_
  intro W base args ds gs before hval0 hW hcnd _
  have hval : ∀ (j : Nat) t v, Try.f5.params[j]? = some t → args[j]? = some v → Value.okWide Try.prog W .any base t v := hval0
  have hW' := hW
  obtain ⟨p, q, hA0, hV, rfl, hfz, hnd⟩ := hW
  have hA : DataW.TrodAll enc Try.prog W 0 (fun _ => true) true Try.f5.params.toList args.toList ds p := hA0
  rw [Try.params5] at hA hval
  obtain ⟨v0, vs0, d0, ds0, p0, q0, hargs, rfl, rfl, h0, r0⟩ := trodAll_cons hA
  obtain ⟨v1, vs1, d1, ds1, p1, q1, rfl, rfl, rfl, h1, r1⟩ := trodAll_cons r0
  obtain ⟨rfl, rfl, rfl⟩ := trodAll_nil r1
  obtain rfl : args = #[v0, v1] := by cases args; simp_all
  obtain ⟨rfl, rfl⟩ := trodVars_none hV
  obtain ⟨a0, rfl, rfl, rfl, w0⟩ := open_int Try.underlying3 (hval 0 3 v0 rfl rfl) h0
  obtain ⟨a1, rfl, rfl, rfl, w1⟩ := open_int Try.underlying3 (hval 1 3 v1 rfl rfl) h1
  clear hA0 hval0
  refine (walk (w := W) a0 a1 w0 w1).mono fun e W' ⟨he, bel⟩ => ?_
  subst he
  exact ⟨_, rfl, _, _, _, [], _, [], hW', trodAll_mk1 (shut_bool Try.underlying4 _), (trodAll_cons_mk (shut_int Try.underlying3 w0) (trodAll_cons_mk (shut_int Try.underlying3 w1) trodAll_mk0)), rfl, bel.frame _, fun h => by cases h⟩

theorem over : Rows.fnExactRatioOfRow.holds Try.pinned (OpenSpec.ofChange Rows.fnExactRatioOfSpec) :=
  OpenClaim.holds_of_wide 5 Try.f5 rfl rfl rfl rfl rfl rfl rfl ⟨rfl, rfl, rfl, rfl, rfl⟩ rfl rfl rfl rfl rfl (by kernel_rfl) Try.func5 (by kernel_rfl)
    (of_decide_eq_true (by kernel_rfl)) (by unfold Func.isWrapper; first | (rw [if_pos (by decide +kernel)]; kernel_rfl) | (rw [if_neg (by decide +kernel)]; exact ⟨rfl, rfl⟩))
    (fun os started H enc _ => lifted os started H enc)

theorem proved : Rows.FnExactRatioOfSaid :=
  over
#print axioms proved
end Go.Proofs.Ytngglhbcpeigcaa.fnExactRatioOf
