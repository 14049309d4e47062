/-
  The model's descending order (as the laws' own): contracts of l04Down and l04Lengths.
-/
import Derived.Test.YtglpiopjhddoeaaSort
namespace Go.Proofs.Ytglpiopjhddoeaa.fns
open Go.ChangeShapes Go.WideShapes Go.ChangeAt Go.RowKit
open Go.Proofs.Ytglpiopjhddoeaa.mem Go.Proofs.Ytglpiopjhddoeaa.ints Go.Proofs.Ytglpiopjhddoeaa.arr Go.Proofs.Ytglpiopjhddoeaa.pm Go.Proofs.Ytglpiopjhddoeaa.mat
set_option linter.unusedVariables false
set_option maxRecDepth 100000

end Go.Proofs.Ytglpiopjhddoeaa.fns
