/-
  Contracts of spec.SameList, slices.Equal at ints, impl.SameList.
-/
import Derived.Test.YtdoohnphgembdaaDoorInts
namespace Go.Proofs.YtdoohnphgembdaaDoor.same
open Go.ChangeShapes Go.WideShapes Go.ChangeAt Go.RowKit
open Go.Proofs.YtdoohnphgembdaaDoor.mem Go.Proofs.YtdoohnphgembdaaDoor.ints
set_option linter.unusedVariables false
set_option maxRecDepth 100000

end Go.Proofs.YtdoohnphgembdaaDoor.same
