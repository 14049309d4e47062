/-
  FnExactSplitAny: at every argument the law FnExactSplitAny returns true, and its arguments read as before. No condition.
-/
import Derived.Test.YtfcocfaobglbaaaRows
import Derived.WalkKit
import Derived.ProofKit
import Derived.OpenShut
import Derived.ShutString
import Derived.ChangeOld
import Derived.Below
import Derived.Test.YtfcocfaobglbaaaSplit
namespace Go.Proofs.Ytfcocfaobglbaaa.fnExactSplitAny
open Go.ChangeShapes Go.WideShapes Go.ChangeAt Go.RowKit
open Go.ChangeMaps (open_string shut_string)
open Go.Proofs.Ytfcocfaobglbaaa.mem Go.Proofs.Ytfcocfaobglbaaa.strs
set_option linter.unusedVariables false

theorem own : ownKnob Try.prog.godebug = none := by kernel_rfl

set_option maxHeartbeats 800000 in
theorem walk (a0 a1 : ByteArray) (w0 : a0.size ≤ maxLen) (w1 : a1.size ≤ maxLen) (w : World) :
    Calls Try.prog 5 #[.string a0, .string a1] w fun e w' => e = .returned (.bool true) ∧ Below w.heap.size w w' := by
  by_cases b0 : 1048576 < a0.size
  · go_enter Try.func5, Try.ntmps5
    go_wp2_with fail
    go_ret
    exact ⟨rfl, Below.refl _ _⟩
  by_cases b1 : 1048576 < a1.size
  · go_enter Try.func5, Try.ntmps5
    go_wp2_with fail
    go_ret
    exact ⟨rfl, Below.refl _ _⟩
  go_enter Try.func5, Try.ntmps5
  go_wp2_with fail
  refine (split.spec_any a0 a1 _ (by omega) (by omega)).mono ?_
  rintro e wa ⟨v, rfl, oa, ba⟩
  obtain ⟨A, c, rfl⟩ := own_form oa
  have rA := Row.of_own oa
  have RA := Lib.hid rA; have BA := Lib.hid ba; clear oa ba rA
  go_wp2_with fail
  refine (split.impl_any a0 a1 _ (by omega) (by omega)).mono ?_
  rintro e wb ⟨v, rfl, ob, bb⟩
  obtain ⟨B, d, rfl⟩ := own_form ob
  have rB := Row.of_own ob
  have RB := Lib.hid rB; have BB := Lib.hid bb; clear ob bb rB
  have hl : (split.fin a0 (split.has a1 a1.size)).length ≤ 1048577 := by
    have := split.st_len a0 (split.has a1 a1.size) a0.size; rw [split.fin_len]; omega
  have HI := Lib.hid (split.impl_any a0 a1)
  generalize HX : split.fin a0 (split.has a1 a1.size) = xs at *
  clear HX
  generalize HN : xs.length = n at *
  clear HN
  have mx : n ≤ maxLen := by unfold maxLen; omega
  have hq : eqs xs xs = true := by simp [eqs]
  have HQ := Lib.hid hq; clear hq
  go_wp2_with fail
  refine (eq_any B n d A n c xs xs _ _ _ _ wb RB.out (RA.out.keep BB.out (Nat.le_refl _)) mx mx).mono ?_
  rintro e wc ⟨rfl, hd⟩
  rw [HQ.out]
  have RB' := Lib.hid (RB.out.keep (hd.below _) (Nat.le_refl _))
  have RA' := Lib.hid ((RA.out.keep BB.out (Nat.le_refl _)).keep (hd.below _) (Nat.le_refl _))
  have BC := Lib.hid ((BA.out.trans (BB.out.mono BA.out.size)).trans (hd.below w.heap.size))
  have SA := Lib.hid BA.out.size; have SB := Lib.hid BB.out.size
  clear hd RA RB BA BB
  go_wp2_with fail
  refine (mark_any B n d _ _ _ 1 wc RB'.out (by omega) (by omega) (by omega)).mono ?_
  rintro e wd ⟨rfl, rM, oM⟩
  have RM := Lib.hid rM; have RA2 := Lib.hid (RA'.out.out oM (.inl (by omega)))
  have BD := Lib.hid (BC.out.trans (oM.below (by have := SA.out; omega) BC.out.size))
  clear rM oM RA' RB' BC
  go_wp2_with fail
  refine (held_any B n d _ _ 1 wd RM.out (by omega) (by omega) (by omega)).mono ?_
  rintro e we ⟨rfl, bE⟩
  have RM2 := Lib.hid (RM.out.keep bE RM.out.2.1); have RA3 := Lib.hid (RA2.out.keep bE RA2.out.2.1)
  have BE := Lib.hid (BD.out.trans (bE.mono BD.out.size))
  clear bE RM RA2 BD
  go_wp2_with fail
  refine (HI.out we (by omega) (by omega)).mono ?_
  rintro e wf ⟨v, rfl, ob, bb⟩
  obtain ⟨C, f, rfl⟩ := own_form ob
  have rC := Row.of_own ob
  have RC := Lib.hid rC; have RM3 := Lib.hid (RM2.out.keep bb RM2.out.2.1); have RA4 := Lib.hid (RA3.out.keep bb RA3.out.2.1)
  have BF := Lib.hid (BE.out.trans (bb.mono BE.out.size))
  clear ob bb rC RM2 RA3 BE
  go_wp2_with fail
  refine (eq_any C n f A n c xs xs _ _ _ _ wf RC.out RA4.out mx mx).mono ?_
  rintro e wg ⟨rfl, hd⟩
  rw [HQ.out]
  have RM4 := Lib.hid (RM3.out.keep (hd.below _) (Nat.le_refl _))
  have BG := Lib.hid (BF.out.trans (hd.below w.heap.size))
  clear hd RC RA4 BF RM3
  go_wp2_with fail
  refine (held_any B n d _ _ 1 wg RM4.out (by omega) (by omega) (by omega)).mono ?_
  rintro e wh ⟨rfl, bH⟩
  have BH := Lib.hid (BG.out.trans (bH.mono BG.out.size))
  clear bH BG RM4
  go_wp2_with fail
  go_ret
  exact ⟨rfl, BH.out⟩

set_option maxRecDepth 100000 in
theorem lifted (os : Os) (started : os.Started) (H : Type) (enc : TypeId × Value → H) :
    ReturnsInHanded {} Try.checked os 5 .any (Rows.fnExactSplitAnySpec.pre6 enc Try.prog Try.f5 Rows.fnExactSplitAnyRow.domain false) (Rows.fnExactSplitAnySpec.post enc Try.prog Try.f5 false true false false) := by
  refine returnsInHanded_of_change (C := Try.checked) own started (by kernel_rfl) Try.func5
    (ChangeSpec.witness6 (enc := enc) (C := Try.checked) false ⟨#[], #[.string ByteArray.empty, .string ByteArray.empty], []⟩ 8 (by kernel_rfl) (by kernel_rfl) (by kernel_rfl) (by kernel_rfl)) ?_
  intro W base args ds gs before hval0 hW hcnd _
  have hval : ∀ (j : Nat) t v, Try.f5.params[j]? = some t → args[j]? = some v → Value.okWide Try.prog W .any base t v := hval0
  have hW' := hW
  obtain ⟨p, q, hA0, hV, rfl, hfz, hnd⟩ := hW
  have hA : DataW.TrodAll enc Try.prog W 0 (fun _ => true) true Try.f5.params.toList args.toList ds p := hA0
  rw [Try.params5] at hA hval
  obtain ⟨v0, vs0, d0, ds0, p0, q0, hargs, rfl, rfl, h0, r0⟩ := trodAll_cons hA
  obtain ⟨v1, vs1, d1, ds1, p1, q1, rfl, rfl, rfl, h1, r1⟩ := trodAll_cons r0
  obtain ⟨rfl, rfl, rfl⟩ := trodAll_nil r1
  obtain rfl : args = #[v0, v1] := by cases args; simp_all
  obtain ⟨rfl, rfl⟩ := trodVars_none hV
  obtain ⟨a0, rfl, rfl, rfl, w0⟩ := open_string Try.underlying9 (hval 0 9 v0 rfl rfl) h0
  obtain ⟨a1, rfl, rfl, rfl, w1⟩ := open_string Try.underlying9 (hval 1 9 v1 rfl rfl) h1
  clear hA0 hval0
  refine (walk a0 a1 w0 w1 W).mono fun e W' ⟨he, bel⟩ => ?_
  subst he
  exact ⟨_, rfl, _, _, _, [], _, [], hW', trodAll_mk1 (shut_bool Try.underlying4 _), (trodAll_cons_mk (shut_string Try.underlying9 w0) (trodAll_cons_mk (shut_string Try.underlying9 w1) trodAll_mk0)), rfl, bel.frame _, fun h => by cases h⟩

theorem over : Rows.fnExactSplitAnyRow.holds Try.pinned (OpenSpec.ofChange Rows.fnExactSplitAnySpec) :=
  OpenClaim.holds_of_wide 5 Try.f5 rfl rfl rfl rfl rfl rfl rfl ⟨rfl, rfl, rfl, rfl, rfl⟩ rfl rfl rfl rfl rfl (by kernel_rfl) Try.func5 (by kernel_rfl)
    (of_decide_eq_true (by kernel_rfl)) (by unfold Func.isWrapper; first | (rw [if_pos (by decide +kernel)]; kernel_rfl) | (rw [if_neg (by decide +kernel)]; exact ⟨rfl, rfl⟩))
    (fun os started H enc _ => lifted os started H enc)

theorem proved : Rows.FnExactSplitAnySaid :=
  over
#print axioms proved
end Go.Proofs.Ytfcocfaobglbaaa.fnExactSplitAny
