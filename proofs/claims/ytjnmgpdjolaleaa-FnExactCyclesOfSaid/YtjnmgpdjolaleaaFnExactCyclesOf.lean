/-
  FnExactCyclesOf: at every argument the law FnExactCyclesOf returns true, and its arguments read as before. No condition.
-/
import Derived.Test.YtjnmgpdjolaleaaRows
import Derived.WalkKit
import Derived.ProofKit
import Derived.OpenShut
import Derived.ShutString
import Derived.ChangeOld
import Derived.Below
import Derived.Test.YtjnmgpdjolaleaaCycSpec
namespace Go.Proofs.Ytjnmgpdjolaleaa.fnExactCyclesOf
open Go.ChangeShapes Go.WideShapes Go.ChangeAt Go.RowKit
open Go.ChangeMaps (open_string shut_string)
open Go.Proofs.Ytjnmgpdjolaleaa.mem Go.Proofs.Ytjnmgpdjolaleaa.ints Go.Proofs.Ytjnmgpdjolaleaa.pm Go.Proofs.Ytjnmgpdjolaleaa.mat
set_option linter.unusedVariables false

theorem own : ownKnob Try.prog.godebug = none := by kernel_rfl
theorem laidOut : laidOutB Try.prog = true := by kernel_rfl

set_option maxHeartbeats 1600000 in
theorem walk (w : World) (A0 : Option Addr) (n0 c0 : Nat) (x0 : List Int) (rd0 : Rd w w.heap.size A0 n0 (V x0)) (cn0 : n0 ≤ c0) (cm0 : c0 ≤ maxLen) (el0 : True) :
    Calls Try.prog 8 #[.slice A0 n0 c0] w fun e w' => e = .returned (.bool true) ∧ Below w.heap.size w w' := by
  have L0 : Hid (x0.length = n0) := Lib.hid (by simpa [V] using rd0.1); have RD0 := Lib.hid rd0; clear rd0 el0; unfold maxLen at cm0
  by_cases z0 : 1048576 < n0
  · go_enter Try.func8, Try.ntmps8
    go_wp2_with fail
    go_ret
    exact ⟨rfl, Below.refl _ _⟩
  have BB := Lib.hid (Below.refl w.heap.size w)
  go_enter Try.func8, Try.ntmps8
  go_wp2_with fail
  refine (to_any A0 n0 c0 x0 _ _ (RD0.out.keep BB.out (Nat.le_refl _)) (by omega)).mono ?_
  rintro e w1_ ⟨rfl, o1, b1⟩
  have NR := Lib.hid (Row.of_own o1); clear o1
  have s1 := b1.size
  replace BB := Lib.hid (BB.out.trans (b1.mono BB.out.size))
  clear b1
  have RS0 := NR; clear NR
  go_wp2_with fail
  refine (fns.cyc_spec (some ⟨w.heap.size, 0, none⟩) n0 n0 x0 _ _ RS0.out.rd (by omega) (by omega)).mono ?_
  rintro e w2_ ⟨PRW, cRW, rfl, o1, b1⟩
  have NR := Lib.hid o1; clear o1
  have s2 := b1.size
  replace RS0 := Lib.hid (RS0.out.keep b1 RS0.out.2.1)
  replace BB := Lib.hid (BB.out.trans (b1.mono BB.out.size))
  clear b1
  have RW := NR; clear NR
  clear RS0
  go_wp2_with fail
  refine (to_any A0 n0 c0 x0 _ _ (RD0.out.keep BB.out (Nat.le_refl _)) (by omega)).mono ?_
  rintro e w3_ ⟨rfl, o1, b1⟩
  have NR := Lib.hid (Row.of_own o1); clear o1
  have s3 := b1.size
  replace RW := Lib.hid (RW.out.keep b1 RW.out.2.1)
  replace BB := Lib.hid (BB.out.trans (b1.mono BB.out.size))
  clear b1
  have RX0 := NR; clear NR
  go_wp2_with fail
  refine (fns.cyc_impl (some ⟨w2_.heap.size, 0, none⟩) n0 n0 x0 _ _ RX0.out.rd (by omega)).mono ?_
  rintro e w4_ ⟨PRG, cRG, rfl, o1, b1⟩
  have NR := Lib.hid o1; clear o1
  have s4 := b1.size
  replace RW := Lib.hid (RW.out.keep b1 RW.out.2.1)
  replace RX0 := Lib.hid (RX0.out.keep b1 RX0.out.2.1)
  replace BB := Lib.hid (BB.out.trans (b1.mono BB.out.size))
  clear b1
  have RG := NR; clear NR
  have gl : (cycF x0).length ≤ 1048576 := (cycF_small x0).1
  have gl2 : tot (cycF x0) ≤ 1048576 := (cycF_small x0).2
  go_wp2_with fail
  refine (eqm_any PRG (cycF x0).length cRG PRW (cycF x0).length cRW (cycF x0) (cycF x0) _ _ _ _ _ RG.out RW.out (by omega) (by omega) gl2 gl2).mono ?_
  rintro e w5_ ⟨rfl, hd⟩
  rw [eqm_self]
  have b1 := hd.below w4_.heap.size; clear hd
  have s5 := b1.size
  replace RW := Lib.hid (RW.out.keep b1 RW.out.2.1)
  replace RX0 := Lib.hid (RX0.out.keep b1 RX0.out.2.1)
  replace RG := Lib.hid (RG.out.keep b1 RG.out.2.1)
  replace BB := Lib.hid (BB.out.trans (b1.mono BB.out.size))
  clear b1
  go_wp2_with fail
  refine (to_any A0 n0 c0 x0 _ _ (RD0.out.keep BB.out (Nat.le_refl _)) (by omega)).mono ?_
  rintro e w6_ ⟨rfl, o1, b1⟩
  have NR := Lib.hid (Row.of_own o1); clear o1
  have s6 := b1.size
  replace RW := Lib.hid (RW.out.keep b1 RW.out.2.1)
  replace RX0 := Lib.hid (RX0.out.keep b1 RX0.out.2.1)
  replace RG := Lib.hid (RG.out.keep b1 RG.out.2.1)
  replace BB := Lib.hid (BB.out.trans (b1.mono BB.out.size))
  clear b1
  have RT0 := NR; clear NR
  go_wp2_with fail
  refine (eq_any (some ⟨w2_.heap.size, 0, none⟩) n0 n0 (some ⟨w5_.heap.size, 0, none⟩) n0 n0 x0 x0 _ _ _ RX0.out.rd RT0.out.rd (by unfold maxLen; omega) (by unfold maxLen; omega)).mono ?_
  rintro e w7_ ⟨rfl, hd⟩
  rw [eqi_self]
  have b1 := hd.below w6_.heap.size; clear hd
  have s7 := b1.size
  replace RW := Lib.hid (RW.out.keep b1 RW.out.2.1)
  replace RX0 := Lib.hid (RX0.out.keep b1 RX0.out.2.1)
  replace RG := Lib.hid (RG.out.keep b1 RG.out.2.1)
  replace RT0 := Lib.hid (RT0.out.keep b1 RT0.out.2.1)
  replace BB := Lib.hid (BB.out.trans (b1.mono BB.out.size))
  clear b1
  clear RT0
  go_wp2_with fail
  refine (mark_any (some ⟨w2_.heap.size, 0, none⟩) n0 n0 _ _ _ (1) _ RX0.out (by omega) (by omega) (by omega)).mono ?_
  rintro e w8_ ⟨rfl, rM, oM⟩
  have s8 := oM.size
  replace RW := Lib.hid (RW.out.out oM (by omega))
  replace RG := Lib.hid (RG.out.out oM (by omega))
  replace RX0 := Lib.hid rM; clear rM
  replace BB := Lib.hid (BB.out.trans (oM.below (by omega) (by omega)))
  clear oM
  clear RX0
  go_wp2_with fail
  refine (eqm_any PRG (cycF x0).length cRG PRW (cycF x0).length cRW (cycF x0) (cycF x0) _ _ _ _ _ RG.out RW.out (by omega) (by omega) gl2 gl2).mono ?_
  rintro e w9_ ⟨rfl, hd⟩
  rw [eqm_self]
  have b1 := hd.below w8_.heap.size; clear hd
  have s9 := b1.size
  replace RW := Lib.hid (RW.out.keep b1 RW.out.2.1)
  replace RG := Lib.hid (RG.out.keep b1 RG.out.2.1)
  replace BB := Lib.hid (BB.out.trans (b1.mono BB.out.size))
  clear b1
  go_wp2_with fail
  refine (markm_any PRG (cycF x0).length cRG _ _ _ (1) _ RG.out (by omega) (by omega) (by omega) gl2).mono ?_
  rintro e w10_ ⟨rfl, rM, oM⟩
  have s10 := oM.size
  replace RW := Lib.hid (RW.out.out oM (by omega))
  replace RG := Lib.hid rM; clear rM
  replace BB := Lib.hid (BB.out.trans (oM.below (by omega) (by omega)))
  clear oM
  go_wp2_with fail
  refine (heldm_any PRG (cycF x0).length cRG (cycF x0) _ _ 1 _ RG.out (by omega) (by omega) (by omega) gl2).mono ?_
  rintro e w11_ ⟨rfl, hd⟩
  have b1 := hd.below w10_.heap.size; clear hd
  have s11 := b1.size
  replace RW := Lib.hid (RW.out.keep b1 RW.out.2.1)
  replace RG := Lib.hid (RG.out.keep b1 RG.out.2.1)
  replace BB := Lib.hid (BB.out.trans (b1.mono BB.out.size))
  clear b1
  go_wp2_with fail
  refine (to_any A0 n0 c0 x0 _ _ (RD0.out.keep BB.out (Nat.le_refl _)) (by omega)).mono ?_
  rintro e w12_ ⟨rfl, o1, b1⟩
  have NR := Lib.hid (Row.of_own o1); clear o1
  have s12 := b1.size
  replace RW := Lib.hid (RW.out.keep b1 RW.out.2.1)
  replace RG := Lib.hid (RG.out.keep b1 RG.out.2.1)
  replace BB := Lib.hid (BB.out.trans (b1.mono BB.out.size))
  clear b1
  have RY0 := NR; clear NR
  go_wp2_with fail
  refine (fns.cyc_impl (some ⟨w11_.heap.size, 0, none⟩) n0 n0 x0 _ _ RY0.out.rd (by omega)).mono ?_
  rintro e w13_ ⟨PRH, cRH, rfl, o1, b1⟩
  have NR := Lib.hid o1; clear o1
  have s13 := b1.size
  replace RW := Lib.hid (RW.out.keep b1 RW.out.2.1)
  replace RG := Lib.hid (RG.out.keep b1 RG.out.2.1)
  replace RY0 := Lib.hid (RY0.out.keep b1 RY0.out.2.1)
  replace BB := Lib.hid (BB.out.trans (b1.mono BB.out.size))
  clear b1
  have RH := NR; clear NR
  clear RY0
  go_wp2_with fail
  refine (eqm_any PRH (cycF x0).length cRH PRW (cycF x0).length cRW (cycF x0) (cycF x0) _ _ _ _ _ RH.out RW.out (by omega) (by omega) gl2 gl2).mono ?_
  rintro e w14_ ⟨rfl, hd⟩
  rw [eqm_self]
  have b1 := hd.below w13_.heap.size; clear hd
  have s14 := b1.size
  replace RW := Lib.hid (RW.out.keep b1 RW.out.2.1)
  replace RG := Lib.hid (RG.out.keep b1 RG.out.2.1)
  replace RH := Lib.hid (RH.out.keep b1 RH.out.2.1)
  replace BB := Lib.hid (BB.out.trans (b1.mono BB.out.size))
  clear b1
  clear RH
  clear RW
  go_wp2_with fail
  refine (heldm_any PRG (cycF x0).length cRG (cycF x0) _ _ 1 _ RG.out (by omega) (by omega) (by omega) gl2).mono ?_
  rintro e w15_ ⟨rfl, hd⟩
  have b1 := hd.below w14_.heap.size; clear hd
  have s15 := b1.size
  replace RG := Lib.hid (RG.out.keep b1 RG.out.2.1)
  replace BB := Lib.hid (BB.out.trans (b1.mono BB.out.size))
  clear b1
  go_wp2_with fail
  go_ret
  exact ⟨rfl, BB.out⟩

set_option maxRecDepth 100000 in
theorem lifted (os : Os) (started : os.Started) (H : Type) (enc : TypeId × Value → H) :
    ReturnsInHanded {} Try.checked os 8 .any (Rows.fnExactCyclesOfSpec.pre6 enc Try.prog Try.f8 Rows.fnExactCyclesOfRow.domain false) (Rows.fnExactCyclesOfSpec.post enc Try.prog Try.f8 false true false false) := by
  refine returnsInHanded_of_change (C := Try.checked) own started (by kernel_rfl) Try.func8
    (ChangeSpec.witness6 (enc := enc) (C := Try.checked) false ⟨#[], #[.slice none 0 0], []⟩ 8 (by kernel_rfl) (by kernel_rfl) (by kernel_rfl) (by kernel_rfl)) ?_
  intro W base args ds gs before hval0 hW hcnd _
  have hval : ∀ (j : Nat) t v, Try.f8.params[j]? = some t → args[j]? = some v → Value.okWide Try.prog W .any base t v := hval0
  have hW' := hW
  obtain ⟨p, q, hA0, hV, rfl, hfz, hnd⟩ := hW
  have hA : DataW.TrodAll enc Try.prog W 0 (fun _ => true) true Try.f8.params.toList args.toList ds p := hA0
  rw [Try.params8] at hA hval
  obtain ⟨v0, vs0, d0, ds0, p0, q0, hargs, rfl, rfl, h0, r0⟩ := trodAll_cons hA
  obtain ⟨rfl, rfl, rfl⟩ := trodAll_nil r0
  obtain rfl : args = #[v0] := by cases args; simp_all
  obtain ⟨rfl, rfl⟩ := trodVars_none hV
  obtain ⟨A0, n0, c0, rfl⟩ := okWide_slice Try.underlying24 (hval 0 24 v0 rfl rfl)
  have lt0 : ∀ x ∈ p0, x.block < W.heap.size := by obtain ⟨m, hm⟩ := h0; exact DataW.trod_lt m _ _ _ hm
  obtain ⟨x0, rd0, cn0, cm0, el0⟩ := open_I Try.underlying24 Try.underlying3 (by kernel_rfl) h0
  clear hA0 hval0
  refine (walk (w := W) A0 n0 c0 x0 rd0 cn0 cm0 el0).mono fun e W' ⟨he, bel⟩ => ?_
  subst he
  exact ⟨_, rfl, _, _, _, [], _, [], hW', trodAll_mk1 (shut_bool Try.underlying4 _), (trodAll_cons_mk (Below.trod laidOut (by kernel_rfl) (of_decide_eq_true (by kernel_rfl)) h0 bel lt0) trodAll_mk0), rfl, bel.frame _, fun h => by cases h⟩

theorem over : Rows.fnExactCyclesOfRow.holds Try.pinned (OpenSpec.ofChange Rows.fnExactCyclesOfSpec) :=
  OpenClaim.holds_of_wide 8 Try.f8 rfl rfl rfl rfl rfl rfl rfl ⟨rfl, rfl, rfl, rfl, rfl⟩ rfl rfl rfl rfl rfl (by kernel_rfl) Try.func8 (by kernel_rfl)
    (of_decide_eq_true (by kernel_rfl)) (by unfold Func.isWrapper; first | (rw [if_pos (by decide +kernel)]; kernel_rfl) | (rw [if_neg (by decide +kernel)]; exact ⟨rfl, rfl⟩))
    (fun os started H enc _ => lifted os started H enc)

theorem proved : Rows.FnExactCyclesOfSaid :=
  over
#print axioms proved
end Go.Proofs.Ytjnmgpdjolaleaa.fnExactCyclesOf
