/-
  FnExactSurfacesIn: at every argument the law FnExactSurfacesIn returns true, and its arguments read as before. No condition.
-/
import Derived.Test.YtafpbnjfmieamaaGreatRows
import Derived.WalkKit
import Derived.ProofKit
import Derived.OpenShut
import Derived.ShutString
import Derived.ChangeOld
import Derived.Below
import Derived.Test.YtafpbnjfmieamaaGreatY27
namespace Go.Proofs.YtafpbnjfmieamaaGreat.fnExactSurfacesIn
open Go.ChangeShapes Go.WideShapes Go.ChangeAt Go.RowKit
open Go.ChangeMaps (open_string shut_string)
open Go.Proofs.YtafpbnjfmieamaaGreat.mem Go.Proofs.YtafpbnjfmieamaaGreat.ints Go.Proofs.YtafpbnjfmieamaaGreat.arr Go.Proofs.YtafpbnjfmieamaaGreat.sf Go.Proofs.YtafpbnjfmieamaaGreat.pm Go.Proofs.YtafpbnjfmieamaaGreat.gl Go.Proofs.YtafpbnjfmieamaaGreat.orb
set_option linter.unusedVariables false
set_option maxRecDepth 100000

theorem own : ownKnob Tryz.prog.godebug = none := by kernel_rfl
theorem laidOut : laidOutB Tryz.prog = true := by kernel_rfl

set_option maxHeartbeats 4000000 in
theorem walk (w : World) (a0 : Int) (A1 : Option Addr) (n1 c1 : Nat) (x1 : List Int) (ha0 : (Lit.int .i64 a0).wf = true) (rd1 : Rd w w.heap.size A1 n1 (V x1)) (cn1 : n1 ≤ c1) (cm1 : c1 ≤ maxLen) (el1 : True) :
    Calls Tryz.prog 3 #[.int .i64 a0, .slice A1 n1 c1] w fun e w' => e = .returned (.bool true) ∧ Below w.heap.size w w' := by
  obtain ⟨lo0, hi0⟩ : -9223372036854775808 ≤ a0 ∧ a0 ≤ 9223372036854775807 := by simpa [Lit.wf, IntKind.min, IntKind.max, IntKind.signed, IntKind.bits] using ha0
  clear ha0
  have L1 : x1.length = n1 := by simpa [V] using rd1.1
  have RD1 := Lib.hid rd1; clear rd1 el1; unfold maxLen at cm1
  by_cases z1 : 1048576 < n1
  · go_enter Tryz.func3, Tryz.ntmps3
    go_wp2_with fail
    go_ret
    exact ⟨rfl, Below.refl _ _⟩
  have BB := Lib.hid (Below.refl w.heap.size w)
  go_enter Tryz.func3, Tryz.ntmps3
  go_wp2_with fail
  refine (to_any A1 n1 c1 x1 _ _ (RD1.out.keep BB.out (Nat.le_refl _)) (by omega)).mono ?_
  rintro e w1_ ⟨rfl, o1, b1⟩
  have NR := Lib.hid (Row.of_own o1); clear o1
  have s1 := b1.size
  replace BB := Lib.hid (BB.out.trans (b1.mono BB.out.size))
  clear b1
  have RS1 := NR; clear NR
  go_wp2_with fail
  refine (lst.si_specL a0 (some ⟨w.heap.size, 0, none⟩) n1 n1 x1 _ _ RS1.out.rd (by omega) lo0 hi0).mono ?_
  rintro e w2_ ⟨PRW, cRW, rfl, o1, b1⟩
  have NR := Lib.hid o1; clear o1
  have s2 := b1.size
  replace RS1 := Lib.hid (RS1.out.keep b1 RS1.out.2.1)
  replace BB := Lib.hid (BB.out.trans (b1.mono BB.out.size))
  clear b1
  have RW := NR; clear NR
  clear RS1
  go_wp2_with fail
  refine (to_any A1 n1 c1 x1 _ _ (RD1.out.keep BB.out (Nat.le_refl _)) (by omega)).mono ?_
  rintro e w3_ ⟨rfl, o1, b1⟩
  have NR := Lib.hid (Row.of_own o1); clear o1
  have s3 := b1.size
  replace RW := Lib.hid (RW.out.keep b1 RW.out.top)
  replace BB := Lib.hid (BB.out.trans (b1.mono BB.out.size))
  clear b1
  have RX1 := NR; clear NR
  go_wp2_with fail
  refine (lst.si_implL a0 (some ⟨w2_.heap.size, 0, none⟩) n1 n1 x1 _ _ RX1.out.rd (by omega) lo0 hi0).mono ?_
  rintro e w4_ ⟨PRG, cRG, rfl, o1, b1⟩
  have NR := Lib.hid o1; clear o1
  have s4 := b1.size
  replace RW := Lib.hid (RW.out.keep b1 RW.out.top)
  replace RX1 := Lib.hid (RX1.out.keep b1 RX1.out.2.1)
  replace BB := Lib.hid (BB.out.trans (b1.mono BB.out.size))
  clear b1
  have RG := NR; clear NR
  have gl : (lst.siF a0 x1).length ≤ 1048576 := (lst.siF_law a0 x1).1
  have gl2 : mat.tot (flat (lst.siF a0 x1)) ≤ 1048576 := (lst.siF_law a0 x1).2.1
  have gl3 := Lib.hid (lst.siF_law a0 x1).2.2
  go_wp2_with fail
  refine (eqL_any PRG (lst.siF a0 x1).length cRG PRW (lst.siF a0 x1).length cRW (lst.siF a0 x1) (lst.siF a0 x1) _ _ _ RG.out.lrd RW.out.lrd gl gl gl3.out gl3.out).mono ?_
  rintro e w5_ ⟨rfl, b1⟩
  rw [eqL_self]
  have s5 := b1.size
  replace RW := Lib.hid (RW.out.keep b1 RW.out.top)
  replace RX1 := Lib.hid (RX1.out.keep b1 RX1.out.2.1)
  replace RG := Lib.hid (RG.out.keep b1 RG.out.top)
  replace BB := Lib.hid (BB.out.trans (b1.mono BB.out.size))
  clear b1
  go_wp2_with fail
  refine (to_any A1 n1 c1 x1 _ _ (RD1.out.keep BB.out (Nat.le_refl _)) (by omega)).mono ?_
  rintro e w6_ ⟨rfl, o1, b1⟩
  have NR := Lib.hid (Row.of_own o1); clear o1
  have s6 := b1.size
  replace RW := Lib.hid (RW.out.keep b1 RW.out.top)
  replace RX1 := Lib.hid (RX1.out.keep b1 RX1.out.2.1)
  replace RG := Lib.hid (RG.out.keep b1 RG.out.top)
  replace BB := Lib.hid (BB.out.trans (b1.mono BB.out.size))
  clear b1
  have RT1 := NR; clear NR
  go_wp2_with fail
  refine (eq_any (some ⟨w2_.heap.size, 0, none⟩) n1 n1 (some ⟨w5_.heap.size, 0, none⟩) n1 n1 x1 x1 _ _ _ RX1.out.rd RT1.out.rd (by unfold maxLen; omega) (by unfold maxLen; omega)).mono ?_
  rintro e w7_ ⟨rfl, hd⟩
  rw [eqi_self]
  have b1 := hd.below w6_.heap.size; clear hd
  have s7 := b1.size
  replace RW := Lib.hid (RW.out.keep b1 RW.out.top)
  replace RX1 := Lib.hid (RX1.out.keep b1 RX1.out.2.1)
  replace RG := Lib.hid (RG.out.keep b1 RG.out.top)
  replace RT1 := Lib.hid (RT1.out.keep b1 RT1.out.2.1)
  replace BB := Lib.hid (BB.out.trans (b1.mono BB.out.size))
  clear b1
  clear RT1
  go_wp2_with fail
  refine (mark_any (some ⟨w2_.heap.size, 0, none⟩) n1 n1 _ _ _ (1) _ RX1.out (by omega) (by omega) (by omega)).mono ?_
  rintro e w8_ ⟨rfl, rM, oM⟩
  have s8 := oM.size
  replace RW := Lib.hid (RW.out.out oM (by omega))
  replace RG := Lib.hid (RG.out.out oM (by omega))
  replace RX1 := Lib.hid rM; clear rM
  replace BB := Lib.hid (BB.out.trans (oM.below (by omega) (by omega)))
  clear oM
  clear RX1
  go_wp2_with fail
  refine (eqL_any PRG (lst.siF a0 x1).length cRG PRW (lst.siF a0 x1).length cRW (lst.siF a0 x1) (lst.siF a0 x1) _ _ _ RG.out.lrd RW.out.lrd gl gl gl3.out gl3.out).mono ?_
  rintro e w9_ ⟨rfl, b1⟩
  rw [eqL_self]
  have s9 := b1.size
  replace RW := Lib.hid (RW.out.keep b1 RW.out.top)
  replace RG := Lib.hid (RG.out.keep b1 RG.out.top)
  replace BB := Lib.hid (BB.out.trans (b1.mono BB.out.size))
  clear b1
  go_wp2_with fail
  refine (markL_any PRG (lst.siF a0 x1).length cRG (flat (lst.siF a0 x1)) _ _ (1) _ RG.out.mat gl (by omega) (by omega) gl2).mono ?_
  rintro e w10_ ⟨rfl, rM, oM⟩
  have s10 := oM.size
  replace RW := Lib.hid (RW.out.out oM (by omega))
  replace RG := Lib.hid rM; clear rM
  replace BB := Lib.hid (BB.out.trans (oM.below (by omega) (by omega)))
  clear oM
  go_wp2_with fail
  refine (heldL_any PRG (lst.siF a0 x1).length cRG (flat (lst.siF a0 x1)) _ _ 1 _ RG.out gl (by omega) (by omega) gl2).mono ?_
  rintro e w11_ ⟨rfl, hd⟩
  have b1 := hd.below w10_.heap.size; clear hd
  have s11 := b1.size
  replace RW := Lib.hid (RW.out.keep b1 RW.out.top)
  replace RG := Lib.hid (RG.out.keep b1 RG.out.2.1)
  replace BB := Lib.hid (BB.out.trans (b1.mono BB.out.size))
  clear b1
  go_wp2_with fail
  refine (to_any A1 n1 c1 x1 _ _ (RD1.out.keep BB.out (Nat.le_refl _)) (by omega)).mono ?_
  rintro e w12_ ⟨rfl, o1, b1⟩
  have NR := Lib.hid (Row.of_own o1); clear o1
  have s12 := b1.size
  replace RW := Lib.hid (RW.out.keep b1 RW.out.top)
  replace RG := Lib.hid (RG.out.keep b1 RG.out.2.1)
  replace BB := Lib.hid (BB.out.trans (b1.mono BB.out.size))
  clear b1
  have RY1 := NR; clear NR
  go_wp2_with fail
  refine (lst.si_implL a0 (some ⟨w11_.heap.size, 0, none⟩) n1 n1 x1 _ _ RY1.out.rd (by omega) lo0 hi0).mono ?_
  rintro e w13_ ⟨PRH, cRH, rfl, o1, b1⟩
  have NR := Lib.hid o1; clear o1
  have s13 := b1.size
  replace RW := Lib.hid (RW.out.keep b1 RW.out.top)
  replace RG := Lib.hid (RG.out.keep b1 RG.out.2.1)
  replace RY1 := Lib.hid (RY1.out.keep b1 RY1.out.2.1)
  replace BB := Lib.hid (BB.out.trans (b1.mono BB.out.size))
  clear b1
  have RH := NR; clear NR
  clear RY1
  go_wp2_with fail
  refine (eqL_any PRH (lst.siF a0 x1).length cRH PRW (lst.siF a0 x1).length cRW (lst.siF a0 x1) (lst.siF a0 x1) _ _ _ RH.out.lrd RW.out.lrd gl gl gl3.out gl3.out).mono ?_
  rintro e w14_ ⟨rfl, b1⟩
  rw [eqL_self]
  have s14 := b1.size
  replace RW := Lib.hid (RW.out.keep b1 RW.out.top)
  replace RG := Lib.hid (RG.out.keep b1 RG.out.2.1)
  replace RH := Lib.hid (RH.out.keep b1 RH.out.top)
  replace BB := Lib.hid (BB.out.trans (b1.mono BB.out.size))
  clear b1
  clear RH
  clear RW
  go_wp2_with fail
  refine (heldL_any PRG (lst.siF a0 x1).length cRG (flat (lst.siF a0 x1)) _ _ 1 _ RG.out gl (by omega) (by omega) gl2).mono ?_
  rintro e w15_ ⟨rfl, hd⟩
  have b1 := hd.below w14_.heap.size; clear hd
  have s15 := b1.size
  replace RG := Lib.hid (RG.out.keep b1 RG.out.2.1)
  replace BB := Lib.hid (BB.out.trans (b1.mono BB.out.size))
  clear b1
  go_wp2_with fail
  go_ret
  exact ⟨rfl, BB.out⟩

set_option maxRecDepth 100000 in
theorem lifted (os : Os) (started : os.Started) (H : Type) (enc : TypeId × Value → H) :
    ReturnsInHanded {} Tryz.checked os 3 .any (Rows.fnExactSurfacesInSpec.pre6 enc Tryz.prog Tryz.f3 Rows.fnExactSurfacesInRow.domain false) (Rows.fnExactSurfacesInSpec.post enc Tryz.prog Tryz.f3 false true false false) := by
  refine returnsInHanded_of_change (C := Tryz.checked) own started (by kernel_rfl) Tryz.func3
    (ChangeSpec.witness6 (enc := enc) (C := Tryz.checked) false ⟨#[], #[.int .i64 0, .slice none 0 0], []⟩ 8 (by kernel_rfl) (by kernel_rfl) (by kernel_rfl) (by kernel_rfl)) ?_
  intro W base args ds gs before hval0 hW hcnd _
  have hval : ∀ (j : Nat) t v, Tryz.f3.params[j]? = some t → args[j]? = some v → Value.okWide Tryz.prog W .any base t v := hval0
  have hW' := hW
  obtain ⟨p, q, hA0, hV, rfl, hfz, hnd⟩ := hW
  have hA : DataW.TrodAll enc Tryz.prog W 0 (fun _ => true) true Tryz.f3.params.toList args.toList ds p := hA0
  rw [Tryz.params3] at hA hval
  obtain ⟨v0, vs0, d0, ds0, p0, q0, hargs, rfl, rfl, h0, r0⟩ := trodAll_cons hA
  obtain ⟨v1, vs1, d1, ds1, p1, q1, rfl, rfl, rfl, h1, r1⟩ := trodAll_cons r0
  obtain ⟨rfl, rfl, rfl⟩ := trodAll_nil r1
  obtain rfl : args = #[v0, v1] := by cases args; simp_all
  obtain ⟨rfl, rfl⟩ := trodVars_none hV
  obtain ⟨a0, rfl, rfl, rfl, w0⟩ := open_int Tryz.underlying3 (hval 0 3 v0 rfl rfl) h0
  obtain ⟨A1, n1, c1, rfl⟩ := okWide_slice Tryz.underlying22 (hval 1 22 v1 rfl rfl)
  have lt1 : ∀ x ∈ p1, x.block < W.heap.size := by obtain ⟨m, hm⟩ := h1; exact DataW.trod_lt m _ _ _ hm
  obtain ⟨x1, rd1, cn1, cm1, el1⟩ := open_I Tryz.underlying22 Tryz.underlying3 (by kernel_rfl) h1
  clear hA0 hval0
  refine (walk (w := W) a0 A1 n1 c1 x1 w0 rd1 cn1 cm1 el1).mono fun e W' ⟨he, bel⟩ => ?_
  subst he
  exact ⟨_, rfl, _, _, _, [], _, [], hW', trodAll_mk1 (shut_bool Tryz.underlying4 _), (trodAll_cons_mk (shut_int Tryz.underlying3 w0) (trodAll_cons_mk (Below.trod laidOut (by kernel_rfl) (of_decide_eq_true (by kernel_rfl)) h1 bel lt1) trodAll_mk0)), rfl, bel.frame _, fun h => by cases h⟩

theorem over : Rows.fnExactSurfacesInRow.holds Tryz.pinned (OpenSpec.ofChange Rows.fnExactSurfacesInSpec) :=
  OpenClaim.holds_of_wide 3 Tryz.f3 rfl rfl rfl rfl rfl rfl rfl ⟨rfl, rfl, rfl, rfl, rfl⟩ rfl rfl rfl rfl rfl (by kernel_rfl) Tryz.func3 (by kernel_rfl)
    (of_decide_eq_true (by kernel_rfl)) (by unfold Func.isWrapper; first | (rw [if_pos (by decide +kernel)]; kernel_rfl) | (rw [if_neg (by decide +kernel)]; exact ⟨rfl, rfl⟩))
    (fun os started H enc _ => lifted os started H enc)

theorem proved : Rows.FnExactSurfacesInSaid :=
  over
#print axioms proved
end Go.Proofs.YtafpbnjfmieamaaGreat.fnExactSurfacesIn
