/-
  FnExactEllOf: at every argument the law FnExactEllOf returns true, and its arguments read as before. No condition.
-/
import Derived.Test.YtpafloeghbfdgaaRows
import Derived.WalkKit
import Derived.ProofKit
import Derived.OpenShut
import Derived.ShutString
import Derived.ChangeOld
import Derived.Below
import Derived.Test.YtpafloeghbfdgaaRg
import Derived.Test.YtpafloeghbfdgaaEi
namespace Go.Proofs.Ytpafloeghbfdgaa.fnExactEllOf
open Go.ChangeShapes Go.WideShapes Go.ChangeAt Go.RowKit
open Go.ChangeMaps (open_string shut_string)
open Go.Proofs.Ytpafloeghbfdgaa.mem Go.Proofs.Ytpafloeghbfdgaa.ints Go.Proofs.Ytpafloeghbfdgaa.arr Go.Proofs.Ytpafloeghbfdgaa.sf Go.Proofs.Ytpafloeghbfdgaa.pm Go.Proofs.Ytpafloeghbfdgaa.gl
set_option linter.unusedVariables false
set_option maxRecDepth 100000

theorem own : ownKnob Try.prog.godebug = none := by kernel_rfl

set_option maxHeartbeats 4000000 in
theorem walk (w : World) (a0 : Int) (a1 : Int) (ha0 : (Lit.int .i64 a0).wf = true) (ha1 : (Lit.int .i64 a1).wf = true) :
    Calls Try.prog 12 #[.int .i64 a0, .int .i64 a1] w fun e w' => e = .returned (.bool true) ∧ Below w.heap.size w w' := by
  obtain ⟨lo0, hi0⟩ : -9223372036854775808 ≤ a0 ∧ a0 ≤ 9223372036854775807 := by simpa [Lit.wf, IntKind.min, IntKind.max, IntKind.signed, IntKind.bits] using ha0
  clear ha0
  obtain ⟨lo1, hi1⟩ : -9223372036854775808 ≤ a1 ∧ a1 ≤ 9223372036854775807 := by simpa [Lit.wf, IntKind.min, IntKind.max, IntKind.signed, IntKind.bits] using ha1
  clear ha1
  have BB := Lib.hid (Below.refl w.heap.size w)
  go_enter Try.func12, Try.ntmps12
  go_wp2_with fail
  refine (el_spec a0 a1 _ lo0 hi0 lo1 hi1).mono ?_
  rintro e w1_ ⟨v, rfl, o1, b1⟩
  obtain ⟨PRW, cRW, QRW, dRW, rfl⟩ := o1.len
  have NR := Lib.hid o1; clear o1
  have s1 := b1.size
  replace BB := Lib.hid (BB.out.trans (b1.mono BB.out.size))
  clear b1
  have RW := NR; clear NR
  go_wp2_with (refine wpList_store_row rfl 25 _ _ rfl w1_.heap.size #[.slice PRW (elFR a0 a1).length cRW, .slice QRW (elFU a0 a1).length dRW] rfl rfl 25 #[.slice none 0 0, .slice none 0 0] (Arr.new w1_ [.slice none 0 0, .slice none 0 0] _ rfl) size2 rfl (by simp [Value.oneCell']) ?_; generalize hw : (w1_.alloc (.cells #[.slice none 0 0, .slice none 0 0] 25)).setRow w1_.heap.size #[.slice PRW (elFR a0 a1).length cRW, .slice QRW (elFU a0 a1).length dRW] = w2_; have NB : Hid (Arr w2_ w1_.heap.size [.slice PRW (elFR a0 a1).length cRW, .slice QRW (elFU a0 a1).length dRW] 25) := Lib.hid (by rw [← hw]; exact (Arr.new w1_ [.slice none 0 0, .slice none 0 0] _ rfl).row); have b1 : Below w1_.heap.size w1_ w2_ := (by rw [← hw]; exact below_setRow ((Below.refl _ _).alloc (Nat.le_refl _) _) (Nat.le_refl _) _); have t2 : w1_.heap.size + 1 ≤ w2_.heap.size := (by rw [← hw]; simp); clear hw; have s2 := b1.size; replace RW := Lib.hid (RW.out.keep b1 RW.out.top); replace BB := Lib.hid (BB.out.trans (b1.mono BB.out.size)); clear b1; have BRW := NB; clear NB; have BRW_0 := BRW.out.cell (k := 0) rfl; have BRW_1 := BRW.out.cell (k := 1) rfl)
  go_wp2_with fail
  refine (el_impl a0 a1 _ lo0 hi0 lo1 hi1).mono ?_
  rintro e w3_ ⟨v, rfl, o1, b1⟩
  obtain ⟨PRG, cRG, QRG, dRG, rfl⟩ := o1.len
  have NR := Lib.hid o1; clear o1
  have s3 := b1.size
  replace RW := Lib.hid (RW.out.keep b1 RW.out.top)
  clear BRW_0 BRW_1
  replace BRW := Lib.hid (BRW.out.keep b1 BRW.out.lt)
  have BRW_0 := BRW.out.cell (k := 0) rfl; have BRW_1 := BRW.out.cell (k := 1) rfl
  replace BB := Lib.hid (BB.out.trans (b1.mono BB.out.size))
  clear b1
  have RG := NR; clear NR
  go_wp2_with (refine wpList_store_row rfl 25 _ _ rfl w3_.heap.size #[.slice PRG (elFR a0 a1).length cRG, .slice QRG (elFU a0 a1).length dRG] rfl rfl 25 #[.slice none 0 0, .slice none 0 0] (Arr.new w3_ [.slice none 0 0, .slice none 0 0] _ rfl) size2 rfl (by simp [Value.oneCell']) ?_; generalize hw : (w3_.alloc (.cells #[.slice none 0 0, .slice none 0 0] 25)).setRow w3_.heap.size #[.slice PRG (elFR a0 a1).length cRG, .slice QRG (elFU a0 a1).length dRG] = w4_; have NB : Hid (Arr w4_ w3_.heap.size [.slice PRG (elFR a0 a1).length cRG, .slice QRG (elFU a0 a1).length dRG] 25) := Lib.hid (by rw [← hw]; exact (Arr.new w3_ [.slice none 0 0, .slice none 0 0] _ rfl).row); have b1 : Below w3_.heap.size w3_ w4_ := (by rw [← hw]; exact below_setRow ((Below.refl _ _).alloc (Nat.le_refl _) _) (Nat.le_refl _) _); have t4 : w3_.heap.size + 1 ≤ w4_.heap.size := (by rw [← hw]; simp); clear hw; have s4 := b1.size; replace RW := Lib.hid (RW.out.keep b1 RW.out.top); clear BRW_0 BRW_1; replace BRW := Lib.hid (BRW.out.keep b1 BRW.out.lt); have BRW_0 := BRW.out.cell (k := 0) rfl; have BRW_1 := BRW.out.cell (k := 1) rfl; replace RG := Lib.hid (RG.out.keep b1 RG.out.top); replace BB := Lib.hid (BB.out.trans (b1.mono BB.out.size)); clear b1; have BRG := NB; clear NB; have BRG_0 := BRG.out.cell (k := 0) rfl; have BRG_1 := BRG.out.cell (k := 1) rfl)
  have gl : (elFR a0 a1).length ≤ 1048576 := elFR_len a0 a1
  have gl2 : (elFU a0 a1).length ≤ 1048576 := elFU_len a0 a1
  generalize hBq : elB a0 a1 = qq at *
  have hqq : (qq != qq) = false := by simp
  go_wp2_with fail
  refine (eqS_any _ _ (elFR a0 a1) (elFU a0 a1) (elFR a0 a1) (elFU a0 a1) _ _ _ RG.out.rd RW.out.rd (by omega) (by omega) (by omega) (by omega)).mono ?_
  rintro e w5_ ⟨rfl, b1⟩
  rw [eqi_self, eqi_self]
  have s5 := b1.size
  replace RW := Lib.hid (RW.out.keep b1 RW.out.top)
  clear BRW_0 BRW_1
  replace BRW := Lib.hid (BRW.out.keep b1 BRW.out.lt)
  have BRW_0 := BRW.out.cell (k := 0) rfl; have BRW_1 := BRW.out.cell (k := 1) rfl
  replace RG := Lib.hid (RG.out.keep b1 RG.out.top)
  clear BRG_0 BRG_1
  replace BRG := Lib.hid (BRG.out.keep b1 BRG.out.lt)
  have BRG_0 := BRG.out.cell (k := 0) rfl; have BRG_1 := BRG.out.cell (k := 1) rfl
  replace BB := Lib.hid (BB.out.trans (b1.mono BB.out.size))
  clear b1
  go_wp2_with fail
  refine (markS_any _ (elFR a0 a1) (elFU a0 a1) _ _ (1) _ RG.out (by omega) (by omega) (by omega) (by omega)).mono ?_
  rintro e w6_ ⟨rfl, rM, oM⟩
  have s6 := oM.size
  replace RW := Lib.hid (RW.out.out oM (by omega))
  clear BRW_0 BRW_1
  replace BRW := Lib.hid (BRW.out.out oM (by omega))
  have BRW_0 := BRW.out.cell (k := 0) rfl; have BRW_1 := BRW.out.cell (k := 1) rfl
  clear BRG_0 BRG_1
  replace BRG := Lib.hid (BRG.out.out oM (by omega))
  have BRG_0 := BRG.out.cell (k := 0) rfl; have BRG_1 := BRG.out.cell (k := 1) rfl
  replace RG := Lib.hid rM; clear rM
  replace BB := Lib.hid (BB.out.trans (oM.below (by omega) (by omega)))
  clear oM
  go_wp2_with fail
  refine (heldS_any _ _ _ _ _ 1 _ RG.out (by omega) (by omega) (by omega) (by omega)).mono ?_
  rintro e w7_ ⟨rfl, b1⟩
  have s7 := b1.size
  replace RW := Lib.hid (RW.out.keep b1 RW.out.top)
  clear BRW_0 BRW_1
  replace BRW := Lib.hid (BRW.out.keep b1 BRW.out.lt)
  have BRW_0 := BRW.out.cell (k := 0) rfl; have BRW_1 := BRW.out.cell (k := 1) rfl
  replace RG := Lib.hid (RG.out.keep b1 RG.out.top)
  clear BRG_0 BRG_1
  replace BRG := Lib.hid (BRG.out.keep b1 BRG.out.lt)
  have BRG_0 := BRG.out.cell (k := 0) rfl; have BRG_1 := BRG.out.cell (k := 1) rfl
  replace BB := Lib.hid (BB.out.trans (b1.mono BB.out.size))
  clear b1
  go_wp2_with fail
  refine (el_impl a0 a1 _ lo0 hi0 lo1 hi1).mono ?_
  rintro e w8_ ⟨v, rfl, o1, b1⟩
  obtain ⟨PRH, cRH, QRH, dRH, rfl⟩ := o1.len
  have NR := Lib.hid o1; clear o1
  have s8 := b1.size
  replace RW := Lib.hid (RW.out.keep b1 RW.out.top)
  clear BRW_0 BRW_1
  replace BRW := Lib.hid (BRW.out.keep b1 BRW.out.lt)
  have BRW_0 := BRW.out.cell (k := 0) rfl; have BRW_1 := BRW.out.cell (k := 1) rfl
  replace RG := Lib.hid (RG.out.keep b1 RG.out.top)
  clear BRG_0 BRG_1
  replace BRG := Lib.hid (BRG.out.keep b1 BRG.out.lt)
  have BRG_0 := BRG.out.cell (k := 0) rfl; have BRG_1 := BRG.out.cell (k := 1) rfl
  replace BB := Lib.hid (BB.out.trans (b1.mono BB.out.size))
  clear b1
  have RH := NR; clear NR
  go_wp2_with (refine wpList_store_row rfl 25 _ _ rfl w8_.heap.size #[.slice PRH (elFR a0 a1).length cRH, .slice QRH (elFU a0 a1).length dRH] rfl rfl 25 #[.slice none 0 0, .slice none 0 0] (Arr.new w8_ [.slice none 0 0, .slice none 0 0] _ rfl) size2 rfl (by simp [Value.oneCell']) ?_; generalize hw : (w8_.alloc (.cells #[.slice none 0 0, .slice none 0 0] 25)).setRow w8_.heap.size #[.slice PRH (elFR a0 a1).length cRH, .slice QRH (elFU a0 a1).length dRH] = w9_; have NB : Hid (Arr w9_ w8_.heap.size [.slice PRH (elFR a0 a1).length cRH, .slice QRH (elFU a0 a1).length dRH] 25) := Lib.hid (by rw [← hw]; exact (Arr.new w8_ [.slice none 0 0, .slice none 0 0] _ rfl).row); have b1 : Below w8_.heap.size w8_ w9_ := (by rw [← hw]; exact below_setRow ((Below.refl _ _).alloc (Nat.le_refl _) _) (Nat.le_refl _) _); have t9 : w8_.heap.size + 1 ≤ w9_.heap.size := (by rw [← hw]; simp); clear hw; have s9 := b1.size; replace RW := Lib.hid (RW.out.keep b1 RW.out.top); clear BRW_0 BRW_1; replace BRW := Lib.hid (BRW.out.keep b1 BRW.out.lt); have BRW_0 := BRW.out.cell (k := 0) rfl; have BRW_1 := BRW.out.cell (k := 1) rfl; replace RG := Lib.hid (RG.out.keep b1 RG.out.top); clear BRG_0 BRG_1; replace BRG := Lib.hid (BRG.out.keep b1 BRG.out.lt); have BRG_0 := BRG.out.cell (k := 0) rfl; have BRG_1 := BRG.out.cell (k := 1) rfl; replace RH := Lib.hid (RH.out.keep b1 RH.out.top); replace BB := Lib.hid (BB.out.trans (b1.mono BB.out.size)); clear b1; have BRH := NB; clear NB; have BRH_0 := BRH.out.cell (k := 0) rfl; have BRH_1 := BRH.out.cell (k := 1) rfl)
  -- h0
  go_wp2_with fail
  refine (eqS_any _ _ (elFR a0 a1) (elFU a0 a1) (elFR a0 a1) (elFU a0 a1) _ _ _ RH.out.rd RW.out.rd (by omega) (by omega) (by omega) (by omega)).mono ?_
  rintro e w10_ ⟨rfl, b1⟩
  rw [eqi_self, eqi_self]
  have s10 := b1.size
  replace RW := Lib.hid (RW.out.keep b1 RW.out.top)
  clear BRW_0 BRW_1
  replace BRW := Lib.hid (BRW.out.keep b1 BRW.out.lt)
  have BRW_0 := BRW.out.cell (k := 0) rfl; have BRW_1 := BRW.out.cell (k := 1) rfl
  replace RG := Lib.hid (RG.out.keep b1 RG.out.top)
  clear BRG_0 BRG_1
  replace BRG := Lib.hid (BRG.out.keep b1 BRG.out.lt)
  have BRG_0 := BRG.out.cell (k := 0) rfl; have BRG_1 := BRG.out.cell (k := 1) rfl
  replace RH := Lib.hid (RH.out.keep b1 RH.out.top)
  clear BRH_0 BRH_1
  replace BRH := Lib.hid (BRH.out.keep b1 BRH.out.lt)
  have BRH_0 := BRH.out.cell (k := 0) rfl; have BRH_1 := BRH.out.cell (k := 1) rfl
  replace BB := Lib.hid (BB.out.trans (b1.mono BB.out.size))
  clear b1
  clear RH
  clear RW
  clear BRH BRH_0 BRH_1
  clear BRW BRW_0 BRW_1
  go_wp2_with fail
  refine (heldS_any _ _ _ _ _ 1 _ RG.out (by omega) (by omega) (by omega) (by omega)).mono ?_
  rintro e w11_ ⟨rfl, b1⟩
  have s11 := b1.size
  replace RG := Lib.hid (RG.out.keep b1 RG.out.top)
  clear BRG_0 BRG_1
  replace BRG := Lib.hid (BRG.out.keep b1 BRG.out.lt)
  have BRG_0 := BRG.out.cell (k := 0) rfl; have BRG_1 := BRG.out.cell (k := 1) rfl
  replace BB := Lib.hid (BB.out.trans (b1.mono BB.out.size))
  clear b1
  go_wp2_with fail
  go_ret
  exact ⟨rfl, BB.out⟩

set_option maxRecDepth 100000 in
theorem lifted (os : Os) (started : os.Started) (H : Type) (enc : TypeId × Value → H) :
    ReturnsInHanded {} Try.checked os 12 .any (Rows.fnExactEllOfSpec.pre6 enc Try.prog Try.f12 Rows.fnExactEllOfRow.domain false) (Rows.fnExactEllOfSpec.post enc Try.prog Try.f12 false true false false) := by
  refine returnsInHanded_of_change (C := Try.checked) own started (by kernel_rfl) Try.func12
    (ChangeSpec.witness6 (enc := enc) (C := Try.checked) false ⟨#[], #[.int .i64 0, .int .i64 0], []⟩ 8 (by kernel_rfl) (by kernel_rfl) (by kernel_rfl) (by kernel_rfl)) ?_
  intro W base args ds gs before hval0 hW hcnd _
  have hval : ∀ (j : Nat) t v, Try.f12.params[j]? = some t → args[j]? = some v → Value.okWide Try.prog W .any base t v := hval0
  have hW' := hW
  obtain ⟨p, q, hA0, hV, rfl, hfz, hnd⟩ := hW
  have hA : DataW.TrodAll enc Try.prog W 0 (fun _ => true) true Try.f12.params.toList args.toList ds p := hA0
  rw [Try.params12] at hA hval
  obtain ⟨v0, vs0, d0, ds0, p0, q0, hargs, rfl, rfl, h0, r0⟩ := trodAll_cons hA
  obtain ⟨v1, vs1, d1, ds1, p1, q1, rfl, rfl, rfl, h1, r1⟩ := trodAll_cons r0
  obtain ⟨rfl, rfl, rfl⟩ := trodAll_nil r1
  obtain rfl : args = #[v0, v1] := by cases args; simp_all
  obtain ⟨rfl, rfl⟩ := trodVars_none hV
  obtain ⟨a0, rfl, rfl, rfl, w0⟩ := open_int Try.underlying3 (hval 0 3 v0 rfl rfl) h0
  obtain ⟨a1, rfl, rfl, rfl, w1⟩ := open_int Try.underlying3 (hval 1 3 v1 rfl rfl) h1
  clear hA0 hval0
  refine (walk (w := W) a0 a1 w0 w1).mono fun e W' ⟨he, bel⟩ => ?_
  subst he
  exact ⟨_, rfl, _, _, _, [], _, [], hW', trodAll_mk1 (shut_bool Try.underlying4 _), (trodAll_cons_mk (shut_int Try.underlying3 w0) (trodAll_cons_mk (shut_int Try.underlying3 w1) trodAll_mk0)), rfl, bel.frame _, fun h => by cases h⟩

theorem over : Rows.fnExactEllOfRow.holds Try.pinned (OpenSpec.ofChange Rows.fnExactEllOfSpec) :=
  OpenClaim.holds_of_wide 12 Try.f12 rfl rfl rfl rfl rfl rfl rfl ⟨rfl, rfl, rfl, rfl, rfl⟩ rfl rfl rfl rfl rfl (by kernel_rfl) Try.func12 (by kernel_rfl)
    (of_decide_eq_true (by kernel_rfl)) (by unfold Func.isWrapper; first | (rw [if_pos (by decide +kernel)]; kernel_rfl) | (rw [if_neg (by decide +kernel)]; exact ⟨rfl, rfl⟩))
    (fun os started H enc _ => lifted os started H enc)

theorem proved : Rows.FnExactEllOfSaid :=
  over
#print axioms proved
end Go.Proofs.Ytpafloeghbfdgaa.fnExactEllOf
