/-
  Contracts of spec.SameList, slices.Equal at ints, impl.SameList.
-/
import Derived.Test.YtglpiopjhddoeaaInts
namespace Go.Proofs.Ytglpiopjhddoeaa.same
open Go.ChangeShapes Go.WideShapes Go.ChangeAt Go.RowKit
open Go.Proofs.Ytglpiopjhddoeaa.mem Go.Proofs.Ytglpiopjhddoeaa.ints
set_option linter.unusedVariables false
set_option maxRecDepth 100000

end Go.Proofs.Ytglpiopjhddoeaa.same
