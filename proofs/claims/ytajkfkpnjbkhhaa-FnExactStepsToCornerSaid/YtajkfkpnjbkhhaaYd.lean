/-
  Balls in the laws: a ball as it comes in, made the program's; a ball equals itself.
-/
import Derived.Test.YtajkfkpnjbkhhaaYc
import Derived.Test.YtajkfkpnjbkhhaaMq
namespace Go.Proofs.Ytajkfkpnjbkhhaa.bal
open Go.ChangeShapes Go.WideShapes Go.ChangeAt Go.RowKit
open Go.Proofs.Ytajkfkpnjbkhhaa.mem Go.Proofs.Ytajkfkpnjbkhhaa.ints Go.Proofs.Ytajkfkpnjbkhhaa.arr Go.Proofs.Ytajkfkpnjbkhhaa.pm Go.Proofs.Ytajkfkpnjbkhhaa.permOk Go.Proofs.Ytajkfkpnjbkhhaa.sf
set_option linter.unusedVariables false
set_option maxRecDepth 100000
theorem toB_any (x : Bal) (w : World) : Calls Try.prog 20 #[bv x] w fun e w' => e = .returned (bv x) ∧ Below w.heap.size w w' := by
  unfold bv
  go_enter Try.func20, Try.ntmps20
  go_wp2
  exact bodyPost_ret (v := bv x) (results_cell_row rfl _ _ (w.heap.size + 1) 24 #[.int .i64 x.1, .int .i64 x.2.1, .int .i64 x.2.2.1, .int .i64 x.2.2.2] (0, 0) _ rfl ((Arr.new _ (V (be x)) 24 (by simp)).alloc _) Try.underlying24 rfl (sizeB x)) rfl ⟨rfl, (((Below.refl _ _).alloc (Nat.le_refl _) _).alloc (by simp) _).alloc (by simp; omega) _⟩
theorem eqB_any (x : Bal) (w : World) : Calls Try.prog 22 #[bv x, bv x] w fun e w' => e = .returned (.bool true) ∧ Below w.heap.size w w' := by
  unfold bv
  go_enter Try.func22, Try.ntmps22
  go_wp2
  go_ret
  exact ⟨rfl, ((Below.refl _ _).alloc (Nat.le_refl _) _).alloc (by simp) _⟩
theorem pe_specB (a b : Int) (w : World) (a0 : -9223372036854775808 ≤ a) (a1 : a ≤ 9223372036854775807) (b0 : -9223372036854775808 ≤ b) (b1 : b ≤ 9223372036854775807) :
    Calls Try.prog 24 #[.int .i64 a, .int .i64 b] w fun e w' => e = .returned (.int .i64 (peF a b)) ∧ Below w.heap.size w w' := pe_spec a b w
theorem ph_specB (a x d : Int) (w : World) (a0 : -9223372036854775808 ≤ a) (a1 : a ≤ 9223372036854775807) (x0 : -9223372036854775808 ≤ x) (x1 : x ≤ 9223372036854775807) (d0 : -9223372036854775808 ≤ d) (d1 : d ≤ 9223372036854775807) :
    Calls Try.prog 28 #[.int .i64 a, .int .i64 x, .int .i64 d] w fun e w' => e = .returned (.int .i64 (phF a x d)) ∧ Below w.heap.size w w' := ph_spec a x d w a0 a1 x0 x1
end Go.Proofs.Ytajkfkpnjbkhhaa.bal
