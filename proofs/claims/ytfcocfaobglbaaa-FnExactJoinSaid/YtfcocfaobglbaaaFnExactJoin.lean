/-
  FnExactJoin: at every argument the law FnExactJoin returns true, and its arguments read as before. No condition.
-/
import Derived.Test.YtfcocfaobglbaaaRows
import Derived.WalkKit
import Derived.ProofKit
import Derived.OpenShut
import Derived.ShutString
import Derived.ChangeOld
import Derived.Below
import Derived.Test.YtfcocfaobglbaaaJoin
import Derived.Test.YtfcocfaobglbaaaOpenS
namespace Go.Proofs.Ytfcocfaobglbaaa.fnExactJoin
open Go.ChangeShapes Go.WideShapes Go.ChangeAt Go.RowKit
open Go.ChangeMaps (open_string shut_string)
open Go.Proofs.Ytfcocfaobglbaaa.mem Go.Proofs.Ytfcocfaobglbaaa.strs Go.Proofs.Ytfcocfaobglbaaa.strsArg
set_option linter.unusedVariables false

theorem own : ownKnob Try.prog.godebug = none := by kernel_rfl
theorem laidOut : laidOutB Try.prog = true := by kernel_rfl

set_option maxHeartbeats 800000 in
theorem walk (w : World) (A : Option Addr) (n c : Nat) (xs : List ByteArray) (b : ByteArray) (rd : Rd w w.heap.size A n (S xs)) (cn : n ≤ c) (cm : c ≤ maxLen) (el : ∀ s ∈ xs, s.size ≤ maxLen) (w1 : b.size ≤ maxLen) :
    Calls Try.prog 7 #[.slice A n c, .string b] w fun e w' => e = .returned (.bool true) ∧ Below w.heap.size w w' := by
  have lx : xs.length = n := by simpa [S] using rd.1
  have LX := Lib.hid lx; have RD := Lib.hid rd; have EL := Lib.hid el; clear lx rd el
  unfold maxLen at cm
  by_cases b0 : 1048576 < b.size
  · go_enter Try.func7, Try.ntmps7
    go_wp2_with fail
    go_ret
    exact ⟨rfl, Below.refl _ _⟩
  by_cases hk : n + sm xs ≤ 1048576
  · have hs : szOf 1048576 xs = 1048576 - n - sm xs := by unfold szOf; rw [LX.out, if_pos (by omega)]
    have HS := Lib.hid hs; clear hs
    have hneg : ¬ (1048576 - (n : Int) - (sm xs : Int)) < 0 := by omega
    go_enter Try.func7, Try.ntmps7
    go_wp2_with fail
    refine (sz_any A n c xs _ 1048576 _ RD.out (by unfold maxLen; omega) EL.out (by omega) (by omega)).mono ?_
    rintro e w' ⟨rfl, rfl⟩
    rw [HS.out]
    go_wp2_with fail
    refine (to_any A n c xs _ _ RD.out (by omega)).mono ?_
    rintro e wa ⟨rfl, oa, ba⟩
    have rA := Row.of_own oa
    have RA := Lib.hid rA; have BA := Lib.hid ba; clear oa ba rA
    go_wp2_with fail
    refine (join.spec_any _ n n xs b _ _ RA.out.rd (by omega) (by omega) (by omega)).mono ?_
    rintro e w' ⟨rfl, rfl⟩
    go_wp2_with fail
    refine (to_any A n c xs _ _ (RD.out.keep BA.out (Nat.le_refl _)) (by omega)).mono ?_
    rintro e wb ⟨rfl, ob, bb⟩
    have rB := Row.of_own ob
    have RB := Lib.hid rB; have BB := Lib.hid (BA.out.trans (bb.mono BA.out.size)); clear ob bb rB
    go_wp2_with fail
    refine (join.impl_any _ n n xs b _ _ RB.out.rd (by omega) (Nat.le_refl _) (by omega) (by omega)).mono ?_
    rintro e wc ⟨rfl, bc⟩
    have RB2 := Lib.hid (RB.out.keep bc RB.out.2.1); have BC := Lib.hid (BB.out.trans (bc.mono BB.out.size))
    clear bc RB RA
    generalize HJ : ByteArray.mk (join.J xs b).toArray = jj
    clear HJ
    go_wp2_with fail
    refine (to_any A n c xs _ _ (RD.out.keep BC.out (Nat.le_refl _)) (by omega)).mono ?_
    rintro e wd ⟨rfl, od, bd⟩
    have rD := Row.of_own od
    have RDD := Lib.hid rD; have RB3 := Lib.hid (RB2.out.keep bd RB2.out.2.1); have BD := Lib.hid (BC.out.trans (bd.mono BC.out.size)); clear od bd rD RB2
    have hq : eqs xs xs = true := by simp [eqs]
    have HQ := Lib.hid hq; clear hq
    go_wp2_with fail
    refine (eq_any _ n n _ n n xs xs _ _ _ RB3.out.rd RDD.out.rd (by unfold maxLen; omega) (by unfold maxLen; omega)).mono ?_
    rintro e we ⟨rfl, hd⟩
    rw [HQ.out]
    have BE := Lib.hid (BD.out.trans (hd.below w.heap.size))
    clear hd
    go_wp2_with fail
    go_ret
    exact ⟨rfl, BE.out⟩
  · have hs : szOf 1048576 xs = -1 := by unfold szOf; rw [LX.out, if_neg (by omega)]
    have HS := Lib.hid hs; clear hs
    go_enter Try.func7, Try.ntmps7
    go_wp2_with fail
    refine (sz_any A n c xs _ 1048576 _ RD.out (by unfold maxLen; omega) EL.out (by omega) (by omega)).mono ?_
    rintro e w' ⟨rfl, rfl⟩
    rw [HS.out]
    go_wp2_with fail
    go_ret
    exact ⟨rfl, Below.refl _ _⟩

set_option maxRecDepth 100000 in
theorem lifted (os : Os) (started : os.Started) (H : Type) (enc : TypeId × Value → H) :
    ReturnsInHanded {} Try.checked os 7 .any (Rows.fnExactJoinSpec.pre6 enc Try.prog Try.f7 Rows.fnExactJoinRow.domain false) (Rows.fnExactJoinSpec.post enc Try.prog Try.f7 false true false false) := by
  refine returnsInHanded_of_change (C := Try.checked) own started (by kernel_rfl) Try.func7
    (ChangeSpec.witness6 (enc := enc) (C := Try.checked) false ⟨#[], #[.slice none 0 0, .string ByteArray.empty], []⟩ 8 (by kernel_rfl) (by kernel_rfl) (by kernel_rfl) (by kernel_rfl)) ?_
  intro W base args ds gs before hval0 hW hcnd _
  have hval : ∀ (j : Nat) t v, Try.f7.params[j]? = some t → args[j]? = some v → Value.okWide Try.prog W .any base t v := hval0
  have hW' := hW
  obtain ⟨p, q, hA0, hV, rfl, hfz, hnd⟩ := hW
  have hA : DataW.TrodAll enc Try.prog W 0 (fun _ => true) true Try.f7.params.toList args.toList ds p := hA0
  rw [Try.params7] at hA hval
  obtain ⟨v0, vs0, d0, ds0, p0, q0, hargs, rfl, rfl, h0, r0⟩ := trodAll_cons hA
  obtain ⟨v1, vs1, d1, ds1, p1, q1, rfl, rfl, rfl, h1, r1⟩ := trodAll_cons r0
  obtain ⟨rfl, rfl, rfl⟩ := trodAll_nil r1
  obtain rfl : args = #[v0, v1] := by cases args; simp_all
  obtain ⟨rfl, rfl⟩ := trodVars_none hV
  obtain ⟨A0, n0, c0, rfl⟩ := okWide_slice Try.underlying23 (hval 0 23 v0 rfl rfl)
  have lt0 : ∀ x ∈ p0, x.block < W.heap.size := by obtain ⟨m, hm⟩ := h0; exact DataW.trod_lt m _ _ _ hm
  obtain ⟨x0, rd0, cn0, cm0, el0⟩ := open_S Try.underlying23 Try.underlying9 (by kernel_rfl) h0
  obtain ⟨a1, rfl, rfl, rfl, w1⟩ := open_string Try.underlying9 (hval 1 9 v1 rfl rfl) h1
  clear hA0 hval0
  refine (walk (w := W) A0 n0 c0 x0 a1 rd0 cn0 cm0 el0 w1).mono fun e W' ⟨he, bel⟩ => ?_
  subst he
  exact ⟨_, rfl, _, _, _, [], _, [], hW', trodAll_mk1 (shut_bool Try.underlying4 _), (trodAll_cons_mk (Below.trod laidOut (by kernel_rfl) (of_decide_eq_true (by kernel_rfl)) h0 bel lt0) (trodAll_cons_mk (shut_string Try.underlying9 w1) trodAll_mk0)), rfl, bel.frame _, fun h => by cases h⟩

theorem over : Rows.fnExactJoinRow.holds Try.pinned (OpenSpec.ofChange Rows.fnExactJoinSpec) :=
  OpenClaim.holds_of_wide 7 Try.f7 rfl rfl rfl rfl rfl rfl rfl ⟨rfl, rfl, rfl, rfl, rfl⟩ rfl rfl rfl rfl rfl (by kernel_rfl) Try.func7 (by kernel_rfl)
    (of_decide_eq_true (by kernel_rfl)) (by unfold Func.isWrapper; first | (rw [if_pos (by decide +kernel)]; kernel_rfl) | (rw [if_neg (by decide +kernel)]; exact ⟨rfl, rfl⟩))
    (fun os started H enc _ => lifted os started H enc)

theorem proved : Rows.FnExactJoinSaid :=
  over
#print axioms proved
end Go.Proofs.Ytfcocfaobglbaaa.fnExactJoin
