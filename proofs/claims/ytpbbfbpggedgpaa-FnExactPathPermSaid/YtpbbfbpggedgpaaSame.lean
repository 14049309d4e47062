/-
  Contracts of spec.SameList, slices.Equal at ints, impl.SameList.
-/
import Derived.Test.YtpbbfbpggedgpaaInts
namespace Go.Proofs.Ytpbbfbpggedgpaa.same
open Go.ChangeShapes Go.WideShapes Go.ChangeAt Go.RowKit
open Go.Proofs.Ytpbbfbpggedgpaa.mem Go.Proofs.Ytpbbfbpggedgpaa.ints
set_option linter.unusedVariables false
set_option maxRecDepth 100000

end Go.Proofs.Ytpbbfbpggedgpaa.same
