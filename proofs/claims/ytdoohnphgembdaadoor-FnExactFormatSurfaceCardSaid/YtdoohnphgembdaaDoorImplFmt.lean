/-
  The contract of the program's FormatInt.
-/
import Derived.Test.YtdoohnphgembdaaDoorDoor
import Derived.Test.YtdoohnphgembdaaDoorFmt
import Derived.Test.YtdoohnphgembdaaDoorShelf
import Derived.Lib.AppendIntMem
namespace Go.Proofs.YtdoohnphgembdaaDoor.implFmt
open Go.ChangeShapes Go.WideShapes Go.ChangeAt Go.RowKit
open Go.Proofs.YtdoohnphgembdaaDoor.mem Go.Proofs.YtdoohnphgembdaaDoor.fmt Go.Proofs.YtdoohnphgembdaaDoor.door
set_option linter.unusedVariables false
set_option maxRecDepth 100000
theorem itoa_any (n : Int) (w : World) (h1 : -9223372036854775808 ≤ n) (h2 : n ≤ 9223372036854775807) (tab : Pow w) :
    Calls Tryd.prog 42 #[.int .i64 n] w fun e w' => e = .returned (.string (B (Lib.itoa n))) ∧ Below w.heap.size w w' :=
  (Tryd.strconv_Itoa n h1 h2 _ tab).mono fun e w' ⟨he, k, os, hw⟩ => ⟨he, by rw [hw]; exact Lib.below_grow _ _ (Nat.le_refl _) k os⟩
theorem impl_any (n : Int) (w : World) (h1 : -9223372036854775808 ≤ n) (h2 : n ≤ 9223372036854775807) (tab : Pow w) :
    Calls Tryd.prog 32 #[.int .i64 n] w fun e w' => e = .returned (.string (B (Lib.itoa n))) ∧ Below w.heap.size w w' := by
  have TAB := Lib.hid tab; clear tab
  go_enter Tryd.func32, Tryd.ntmps32
  go_wp2_with fail
  refine (itoa_any n _ h1 h2 TAB.out).mono ?_
  rintro e w' ⟨rfl, hb⟩
  go_wp2
  go_ret
  exact ⟨rfl, hb⟩
end Go.Proofs.YtdoohnphgembdaaDoor.implFmt
