/-
  FnExactIsTransitive: at every argument the law FnExactIsTransitive returns true, and its arguments read as before. No condition.
-/
import Derived.Test.YtjnmgpdjolaleaaRows
import Derived.WalkKit
import Derived.ProofKit
import Derived.OpenShut
import Derived.ShutString
import Derived.ChangeOld
import Derived.Below
import Derived.Test.YtjnmgpdjolaleaaTrans
namespace Go.Proofs.Ytjnmgpdjolaleaa.fnExactIsTransitive
open Go.ChangeShapes Go.WideShapes Go.ChangeAt Go.RowKit
open Go.ChangeMaps (open_string shut_string)
open Go.Proofs.Ytjnmgpdjolaleaa.mem Go.Proofs.Ytjnmgpdjolaleaa.ints Go.Proofs.Ytjnmgpdjolaleaa.pm
set_option linter.unusedVariables false

theorem own : ownKnob Try.prog.godebug = none := by kernel_rfl
theorem laidOut : laidOutB Try.prog = true := by kernel_rfl

set_option maxHeartbeats 1600000 in
theorem walk (w : World) (A0 : Option Addr) (n0 c0 : Nat) (x0 : List Int) (A1 : Option Addr) (n1 c1 : Nat) (x1 : List Int) (rd0 : Rd w w.heap.size A0 n0 (V x0)) (cn0 : n0 ≤ c0) (cm0 : c0 ≤ maxLen) (el0 : True) (rd1 : Rd w w.heap.size A1 n1 (V x1)) (cn1 : n1 ≤ c1) (cm1 : c1 ≤ maxLen) (el1 : True) :
    Calls Try.prog 10 #[.slice A0 n0 c0, .slice A1 n1 c1] w fun e w' => e = .returned (.bool true) ∧ Below w.heap.size w w' := by
  have L0 : Hid (x0.length = n0) := Lib.hid (by simpa [V] using rd0.1); have RD0 := Lib.hid rd0; clear rd0 el0; unfold maxLen at cm0
  have L1 : Hid (x1.length = n1) := Lib.hid (by simpa [V] using rd1.1); have RD1 := Lib.hid rd1; clear rd1 el1; unfold maxLen at cm1
  by_cases z0 : 1048576 < n0
  · go_enter Try.func10, Try.ntmps10
    go_wp2_with fail
    go_ret
    exact ⟨rfl, Below.refl _ _⟩
  by_cases z1 : 1048576 < n1
  · go_enter Try.func10, Try.ntmps10
    go_wp2_with fail
    go_ret
    exact ⟨rfl, Below.refl _ _⟩
  have BB := Lib.hid (Below.refl w.heap.size w)
  go_enter Try.func10, Try.ntmps10
  go_wp2_with fail
  refine (to_any A0 n0 c0 x0 _ _ (RD0.out.keep BB.out (Nat.le_refl _)) (by omega)).mono ?_
  rintro e w1_ ⟨rfl, o1, b1⟩
  have NR := Lib.hid (Row.of_own o1); clear o1
  have s1 := b1.size
  replace BB := Lib.hid (BB.out.trans (b1.mono BB.out.size))
  clear b1
  have RS0 := NR; clear NR
  go_wp2_with fail
  refine (to_any A1 n1 c1 x1 _ _ (RD1.out.keep BB.out (Nat.le_refl _)) (by omega)).mono ?_
  rintro e w2_ ⟨rfl, o1, b1⟩
  have NR := Lib.hid (Row.of_own o1); clear o1
  have s2 := b1.size
  replace RS0 := Lib.hid (RS0.out.keep b1 RS0.out.2.1)
  replace BB := Lib.hid (BB.out.trans (b1.mono BB.out.size))
  clear b1
  have RS1 := NR; clear NR
  go_wp2_with fail
  refine (fns.trans_spec (some ⟨w.heap.size, 0, none⟩) n0 n0 x0 (some ⟨w1_.heap.size, 0, none⟩) n1 n1 x1 _ _ _ RS0.out.rd RS1.out.rd (by omega) (by omega) (by omega) (by omega)).mono ?_
  rintro e w3_ ⟨rfl, b1⟩
  have s3 := b1.size
  replace RS0 := Lib.hid (RS0.out.keep b1 RS0.out.2.1)
  replace RS1 := Lib.hid (RS1.out.keep b1 RS1.out.2.1)
  replace BB := Lib.hid (BB.out.trans (b1.mono BB.out.size))
  clear b1
  clear RS0
  clear RS1
  go_wp2_with fail
  refine (to_any A0 n0 c0 x0 _ _ (RD0.out.keep BB.out (Nat.le_refl _)) (by omega)).mono ?_
  rintro e w4_ ⟨rfl, o1, b1⟩
  have NR := Lib.hid (Row.of_own o1); clear o1
  have s4 := b1.size
  replace BB := Lib.hid (BB.out.trans (b1.mono BB.out.size))
  clear b1
  have RX0 := NR; clear NR
  go_wp2_with fail
  refine (to_any A1 n1 c1 x1 _ _ (RD1.out.keep BB.out (Nat.le_refl _)) (by omega)).mono ?_
  rintro e w5_ ⟨rfl, o1, b1⟩
  have NR := Lib.hid (Row.of_own o1); clear o1
  have s5 := b1.size
  replace RX0 := Lib.hid (RX0.out.keep b1 RX0.out.2.1)
  replace BB := Lib.hid (BB.out.trans (b1.mono BB.out.size))
  clear b1
  have RX1 := NR; clear NR
  go_wp2_with fail
  refine (fns.trans_impl (some ⟨w3_.heap.size, 0, none⟩) n0 n0 x0 (some ⟨w4_.heap.size, 0, none⟩) n1 n1 x1 _ _ _ RX0.out.rd RX1.out.rd (by omega) (by omega)).mono ?_
  rintro e w6_ ⟨rfl, b1⟩
  have s6 := b1.size
  replace RX0 := Lib.hid (RX0.out.keep b1 RX0.out.2.1)
  replace RX1 := Lib.hid (RX1.out.keep b1 RX1.out.2.1)
  replace BB := Lib.hid (BB.out.trans (b1.mono BB.out.size))
  clear b1
  generalize transB x0 x1 = qq at *
  have hqq : (qq != qq) = false := by simp
  go_wp2_with fail
  refine (to_any A0 n0 c0 x0 _ _ (RD0.out.keep BB.out (Nat.le_refl _)) (by omega)).mono ?_
  rintro e w7_ ⟨rfl, o1, b1⟩
  have NR := Lib.hid (Row.of_own o1); clear o1
  have s7 := b1.size
  replace RX0 := Lib.hid (RX0.out.keep b1 RX0.out.2.1)
  replace RX1 := Lib.hid (RX1.out.keep b1 RX1.out.2.1)
  replace BB := Lib.hid (BB.out.trans (b1.mono BB.out.size))
  clear b1
  have RT0 := NR; clear NR
  go_wp2_with fail
  refine (eq_any (some ⟨w3_.heap.size, 0, none⟩) n0 n0 (some ⟨w6_.heap.size, 0, none⟩) n0 n0 x0 x0 _ _ _ RX0.out.rd RT0.out.rd (by unfold maxLen; omega) (by unfold maxLen; omega)).mono ?_
  rintro e w8_ ⟨rfl, hd⟩
  rw [eqi_self]
  have b1 := hd.below w7_.heap.size; clear hd
  have s8 := b1.size
  replace RX0 := Lib.hid (RX0.out.keep b1 RX0.out.2.1)
  replace RX1 := Lib.hid (RX1.out.keep b1 RX1.out.2.1)
  replace RT0 := Lib.hid (RT0.out.keep b1 RT0.out.2.1)
  replace BB := Lib.hid (BB.out.trans (b1.mono BB.out.size))
  clear b1
  clear RT0
  go_wp2_with fail
  refine (to_any A1 n1 c1 x1 _ _ (RD1.out.keep BB.out (Nat.le_refl _)) (by omega)).mono ?_
  rintro e w9_ ⟨rfl, o1, b1⟩
  have NR := Lib.hid (Row.of_own o1); clear o1
  have s9 := b1.size
  replace RX0 := Lib.hid (RX0.out.keep b1 RX0.out.2.1)
  replace RX1 := Lib.hid (RX1.out.keep b1 RX1.out.2.1)
  replace BB := Lib.hid (BB.out.trans (b1.mono BB.out.size))
  clear b1
  have RT1 := NR; clear NR
  go_wp2_with fail
  refine (eq_any (some ⟨w4_.heap.size, 0, none⟩) n1 n1 (some ⟨w8_.heap.size, 0, none⟩) n1 n1 x1 x1 _ _ _ RX1.out.rd RT1.out.rd (by unfold maxLen; omega) (by unfold maxLen; omega)).mono ?_
  rintro e w10_ ⟨rfl, hd⟩
  rw [eqi_self]
  have b1 := hd.below w9_.heap.size; clear hd
  have s10 := b1.size
  replace RX0 := Lib.hid (RX0.out.keep b1 RX0.out.2.1)
  replace RX1 := Lib.hid (RX1.out.keep b1 RX1.out.2.1)
  replace RT1 := Lib.hid (RT1.out.keep b1 RT1.out.2.1)
  replace BB := Lib.hid (BB.out.trans (b1.mono BB.out.size))
  clear b1
  clear RT1
  go_wp2_with fail
  go_ret
  exact ⟨rfl, BB.out⟩

set_option maxRecDepth 100000 in
theorem lifted (os : Os) (started : os.Started) (H : Type) (enc : TypeId × Value → H) :
    ReturnsInHanded {} Try.checked os 10 .any (Rows.fnExactIsTransitiveSpec.pre6 enc Try.prog Try.f10 Rows.fnExactIsTransitiveRow.domain false) (Rows.fnExactIsTransitiveSpec.post enc Try.prog Try.f10 false true false false) := by
  refine returnsInHanded_of_change (C := Try.checked) own started (by kernel_rfl) Try.func10
    (ChangeSpec.witness6 (enc := enc) (C := Try.checked) false ⟨#[], #[.slice none 0 0, .slice none 0 0], []⟩ 8 (by kernel_rfl) (by kernel_rfl) (by kernel_rfl) (by kernel_rfl)) ?_
  intro W base args ds gs before hval0 hW hcnd _
  have hval : ∀ (j : Nat) t v, Try.f10.params[j]? = some t → args[j]? = some v → Value.okWide Try.prog W .any base t v := hval0
  have hW' := hW
  obtain ⟨p, q, hA0, hV, rfl, hfz, hnd⟩ := hW
  have hA : DataW.TrodAll enc Try.prog W 0 (fun _ => true) true Try.f10.params.toList args.toList ds p := hA0
  rw [Try.params10] at hA hval
  obtain ⟨v0, vs0, d0, ds0, p0, q0, hargs, rfl, rfl, h0, r0⟩ := trodAll_cons hA
  obtain ⟨v1, vs1, d1, ds1, p1, q1, rfl, rfl, rfl, h1, r1⟩ := trodAll_cons r0
  obtain ⟨rfl, rfl, rfl⟩ := trodAll_nil r1
  obtain rfl : args = #[v0, v1] := by cases args; simp_all
  obtain ⟨rfl, rfl⟩ := trodVars_none hV
  obtain ⟨A0, n0, c0, rfl⟩ := okWide_slice Try.underlying24 (hval 0 24 v0 rfl rfl)
  have lt0 : ∀ x ∈ p0, x.block < W.heap.size := by obtain ⟨m, hm⟩ := h0; exact DataW.trod_lt m _ _ _ hm
  obtain ⟨x0, rd0, cn0, cm0, el0⟩ := open_I Try.underlying24 Try.underlying3 (by kernel_rfl) h0
  obtain ⟨A1, n1, c1, rfl⟩ := okWide_slice Try.underlying24 (hval 1 24 v1 rfl rfl)
  have lt1 : ∀ x ∈ p1, x.block < W.heap.size := by obtain ⟨m, hm⟩ := h1; exact DataW.trod_lt m _ _ _ hm
  obtain ⟨x1, rd1, cn1, cm1, el1⟩ := open_I Try.underlying24 Try.underlying3 (by kernel_rfl) h1
  clear hA0 hval0
  refine (walk (w := W) A0 n0 c0 x0 A1 n1 c1 x1 rd0 cn0 cm0 el0 rd1 cn1 cm1 el1).mono fun e W' ⟨he, bel⟩ => ?_
  subst he
  exact ⟨_, rfl, _, _, _, [], _, [], hW', trodAll_mk1 (shut_bool Try.underlying4 _), (trodAll_cons_mk (Below.trod laidOut (by kernel_rfl) (of_decide_eq_true (by kernel_rfl)) h0 bel lt0) (trodAll_cons_mk (Below.trod laidOut (by kernel_rfl) (of_decide_eq_true (by kernel_rfl)) h1 bel lt1) trodAll_mk0)), rfl, bel.frame _, fun h => by cases h⟩

theorem over : Rows.fnExactIsTransitiveRow.holds Try.pinned (OpenSpec.ofChange Rows.fnExactIsTransitiveSpec) :=
  OpenClaim.holds_of_wide 10 Try.f10 rfl rfl rfl rfl rfl rfl rfl ⟨rfl, rfl, rfl, rfl, rfl⟩ rfl rfl rfl rfl rfl (by kernel_rfl) Try.func10 (by kernel_rfl)
    (of_decide_eq_true (by kernel_rfl)) (by unfold Func.isWrapper; first | (rw [if_pos (by decide +kernel)]; kernel_rfl) | (rw [if_neg (by decide +kernel)]; exact ⟨rfl, rfl⟩))
    (fun os started H enc _ => lifted os started H enc)

theorem proved : Rows.FnExactIsTransitiveSaid :=
  over
#print axioms proved
end Go.Proofs.Ytjnmgpdjolaleaa.fnExactIsTransitive
