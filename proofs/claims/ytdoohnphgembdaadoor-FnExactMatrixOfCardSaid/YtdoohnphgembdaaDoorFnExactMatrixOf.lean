/-
  FnExactMatrixOf: at every argument the law FnExactMatrixOf returns true, and its arguments read as before. The listed package variables hold what the program text lays, as the card ties them to the pruned copy of the project.
-/
import Derived.Test.YtdoohnphgembdaaDoorRows
import Derived.Test.YtdoohnphgembdaaDoorDoorM
import Derived.WalkKit
import Derived.ProofKit
import Derived.OpenShut
import Derived.ShutString
import Derived.ChangeOld
import Derived.Below
import Derived.OpenVars
import Derived.Test.YtdoohnphgembdaaDoorMt
namespace Go.Proofs.YtdoohnphgembdaaDoor.fnExactMatrixOf
open Go.ChangeShapes Go.WideShapes Go.ChangeAt Go.RowKit
open Go.ChangeMaps (open_string shut_string)
open Go.Proofs.YtdoohnphgembdaaDoor.mem Go.Proofs.YtdoohnphgembdaaDoor.ints Go.Proofs.YtdoohnphgembdaaDoor.arr Go.Proofs.YtdoohnphgembdaaDoor.wd Go.Proofs.YtdoohnphgembdaaDoor.mx Go.Proofs.YtdoohnphgembdaaDoor.mt Go.Proofs.YtdoohnphgembdaaDoor.doorM
set_option linter.unusedVariables false
set_option maxRecDepth 100000

set_option maxRecDepth 100000 in
set_option maxHeartbeats 2000000 in
theorem walk (a0 : ByteArray) (w0 : a0.size ≤ maxLen) (w : World) (tab : Pow w) :
    Calls Tryd.prog 3 #[.string a0] w fun e w' => e = .returned (.bool true) ∧ Below w.heap.size w w' := by
  have TAB := Lib.hid tab; have tlt := LM.lt tab; clear tab
  by_cases b0 : 1048576 < a0.size
  · go_enter Tryd.func3, Tryd.ntmps3
    go_wp2_with fail
    go_ret
    exact ⟨rfl, Below.refl _ _⟩
  · have hqq : (wok a0 != wok a0) = false := by simp
    go_enter Tryd.func3, Tryd.ntmps3
    go_wp2_with fail
    refine (mt_spec a0 _ (by omega)).mono ?_
    rintro e w1 ⟨rfl, b1⟩
    have BB := Lib.hid b1; clear b1
    unfold mv
    go_wp2_with fail
    generalize hw2 : w1.alloc (.cells #[.int .i64 (mtF a0).1, .int .i64 (mtF a0).2.1, .int .i64 (mtF a0).2.2.1, .int .i64 (mtF a0).2.2.2] 23) = w2
    have A3 : Hid (Arr w2 w1.heap.size (V (ents (mtF a0))) 23) := Lib.hid (by rw [← hw2]; exact Arr.new _ _ _ rfl)
    have b1 : Below w1.heap.size w1 w2 := by rw [← hw2]; exact (Below.refl _ _).alloc (Nat.le_refl _) _
    have s2 : w1.heap.size < w2.heap.size := by rw [← hw2]; simp
    replace BB := Lib.hid (BB.out.trans (b1.mono BB.out.size))
    clear hw2 b1
    refine (mt_impl a0 _ (by omega) (LM.keep TAB.out BB.out tlt)).mono ?_
    rintro e w3 ⟨rfl, b1⟩
    have s3 := b1.size
    replace A3 := Lib.hid (A3.out.keep b1 A3.out.lt)
    replace BB := Lib.hid (BB.out.trans (b1.mono BB.out.size))
    clear b1
    have A3' := A3.out.alloc (.cells #[.int .i64 (mtF a0).1, .int .i64 (mtF a0).2.1, .int .i64 (mtF a0).2.2.1, .int .i64 (mtF a0).2.2.2] 23)
    have c0 := A3'.cell (k := 0) rfl; have c1 := A3'.cell (k := 1) rfl; have c2 := A3'.cell (k := 2) rfl; have c3 := A3'.cell (k := 3) rfl
    replace BB := Lib.hid (BB.out.alloc BB.out.size (.cells #[.int .i64 (mtF a0).1, .int .i64 (mtF a0).2.1, .int .i64 (mtF a0).2.2.1, .int .i64 (mtF a0).2.2.2] 23))
    clear A3' A3
    unfold mv
    go_wp2_with fail
    refine (eqM_any (mtF a0) _).mono ?_
    rintro e w5 ⟨rfl, b1⟩
    replace BB := Lib.hid (BB.out.trans (b1.mono BB.out.size))
    clear b1 c0 c1 c2 c3
    go_wp2_with fail
    go_ret
    exact ⟨rfl, BB.out⟩

theorem contract (H : Type) (enc : TypeId × Value → H) (W : World) (base : Nat) (args : Array Value) (ds gs : List (DataW H)) (before : List MemPlace)
    (hval : ∀ (j : Nat) t v, Tryd.f3.params[j]? = some t → args[j]? = some v → Value.okWide Tryd.prog W .any base t v)
    (hW : DataW.Whole enc Tryd.prog Tryd.f3.params.toList Rows.fnExactMatrixOfSpec.vars false W args.toList ds gs before) (hL : laidMetH Tryd.prog Rows.fnExactMatrixOfRow.laid W) :
    Calls Tryd.prog 3 args W fun e W' => ∃ v, e = .returned v ∧ Rows.fnExactMatrixOfSpec.post enc Tryd.prog Tryd.f3 false true false false W args v W' := by
  have hW' := hW
  obtain ⟨p, q, hA0, hV, rfl, hfz, hnd⟩ := hW
  have hA : DataW.TrodAll enc Tryd.prog W 0 (fun _ => true) true Tryd.f3.params.toList args.toList ds p := hA0
  rw [Tryd.params3] at hA hval
  obtain ⟨v0, vs0, d0, ds0, p0, q0, hargs, rfl, rfl, h0, r0⟩ := trodAll_cons hA
  obtain ⟨rfl, rfl, rfl⟩ := trodAll_nil r0
  obtain rfl : args = #[v0] := by cases args; simp_all
  have hV0 := hV
  obtain ⟨g, t, cs, fuel, d, p', rfl, hg, ht, hvar, hd, rfl⟩ := trodVars_one hV0
  obtain ⟨a0, rfl, rfl, rfl, w0⟩ := open_string Tryd.underlying9 (hval 0 9 v0 rfl rfl) h0
  clear hA0
  have tab : Pow W := pow_of hL
  refine (walk (w := W) a0 w0 tab).mono fun e W' ⟨he, bel⟩ => ?_
  subst he
  exact ⟨_, rfl, _, _, _, [], _, _, hW', trodAll_mk1 (shut_bool Tryd.underlying4 _), (trodAll_cons_mk (shut_string Tryd.underlying9 w0) trodAll_mk0), bel.trodVars laidOut (by kernel_rfl) hV, bel.frame _, fun h => by cases h⟩

theorem laid_met (os : Os) : laidMet Tryd.prog Rows.fnExactMatrixOfRow.laid ((worldM os).forCall (fun _ _ => 0) ⟨#[], #[.string ByteArray.empty], []⟩).memory :=
  laidMet_of_run' 8 (by kernel_rfl) (by kernel_rfl)
theorem reads (os : Os) {H : Type} (enc : TypeId × Value → H) : ∃ places, DataW.whole enc Tryd.prog ((worldM os).forCall (fun _ _ => 0) ⟨#[], #[.string ByteArray.empty], []⟩).memory Tryd.f3.params.toList Rows.fnExactMatrixOfSpec.vars false (#[.string ByteArray.empty] : Array Value).toList 8 = some ([.lit (.string [])], [Rows.laid_loop_example_g00928_impl_letterMatrices], places) :=
  ⟨MemPlace.row ⟨0, 0, .none⟩ 16, by kernel_rfl⟩

set_option maxRecDepth 100000 in
theorem lifted (os : Os) (started : os.Started) (H : Type) (enc : TypeId × Value → H) (F : Stop.Interp) :
    ReturnsInHanded {} Tryd.checked os 3 .any ((OpenSpec.ofChange Rows.fnExactMatrixOfSpec).preRow enc Tryd.prog Tryd.f3 Rows.fnExactMatrixOfRow.domain false Rows.fnExactMatrixOfRow.laid) (((OpenSpec.ofChange Rows.fnExactMatrixOfSpec).at F).post enc Tryd.prog Tryd.f3 false true false false) := by
  obtain ⟨places, hx⟩ := reads os enc
  refine returnsInHanded_of_row (C := Tryd.checked) (s := OpenSpec.ofChange Rows.fnExactMatrixOfSpec) own started (by kernel_rfl) Tryd.func3
    (witness_row_at (enc := enc) (C := Tryd.checked) false (worldM os) #[.string ByteArray.empty] rfl (by kernel_rfl) (by kernel_rfl) (by kernel_rfl)
      (OpenSpec.preRow_of_cond 8 hx (by kernel_rfl) (fun k hk => by cases hk) (by kernel_rfl) (laid_met os))) ?_
  intro W base args ds gs before hval hW _ _ _ hL _ _
  exact contract H enc W base args ds gs before hval hW hL

theorem said : Rows.FnExactMatrixOfSaid :=
  OpenClaim.holds_of_cond 3 Tryd.f3 rfl rfl rfl rfl rfl rfl rfl ⟨rfl, rfl, rfl, rfl, rfl⟩ rfl rfl rfl rfl rfl (by kernel_rfl) Tryd.func3 (by kernel_rfl)
    (of_decide_eq_true (by kernel_rfl)) (by unfold Func.isWrapper; first | (rw [if_pos (by decide +kernel)]; kernel_rfl) | (rw [if_neg (by decide +kernel)]; exact ⟨rfl, rfl⟩))
    (fun os started H enc _ F => by rw [OpenClaim.pre_eq_preRow]; exact lifted os started H enc F)

theorem plain (f : FuncId) (fn : Func) (hf : Tryd.pinned.checked.prog.funcNamed "loop.example/g00928/laws.FnExactMatrixOf" = some f) (hfn : Tryd.pinned.checked.prog.funcs[f]? = some fn) :
    false = Tryd.pinned.checked.prog.looks [] ∧ ∀ (j : Nat) t, fn.params[j]? = some t → Tryd.pinned.checked.prog.wantsStandIn t = false := by
  obtain rfl : f = 3 := Option.some.inj ((show Tryd.prog.funcNamed "loop.example/g00928/laws.FnExactMatrixOf" = some 3 by kernel_rfl).symm.trans hf) |>.symm
  obtain rfl : fn = Tryd.f3 := (Option.some.inj (Tryd.func3.symm.trans hfn)).symm
  refine ⟨by kernel_rfl, fun j t ht => ?_⟩
  rw [Tryd.params3] at ht
  have hm := Array.mem_of_getElem? ht
  have ha : ∀ x ∈ #[9], Tryd.prog.wantsStandIn x = false := by
    intro x hx
    simp only [List.mem_toArray, List.mem_cons, List.not_mem_nil, or_false] at hx
    rcases hx with rfl <;> kernel_rfl
  exact ha t hm

theorem proved : Rows.FnExactMatrixOfCardSaid :=
  Claim7.holds_tied_plain_at .later [] _ _ _ _ said (fun _ h => by cases h) (by kernel_rfl) (fun _ h => by cases h) fnExactMatrixOf_row_tie rfl ⟨rfl, rfl⟩ (by kernel_rfl) rfl plain (by kernel_rfl)
#print axioms proved
end Go.Proofs.YtdoohnphgembdaaDoor.fnExactMatrixOf
