/-
  Contracts of spec.SameList, slices.Equal at ints, impl.SameList.
-/
import Derived.Test.YtkkklpchkkdhfaaInts
namespace Go.Proofs.Ytkkklpchkkdhfaa.same
open Go.ChangeShapes Go.WideShapes Go.ChangeAt Go.RowKit
open Go.Proofs.Ytkkklpchkkdhfaa.mem Go.Proofs.Ytkkklpchkkdhfaa.ints
set_option linter.unusedVariables false
set_option maxRecDepth 100000

end Go.Proofs.Ytkkklpchkkdhfaa.same
