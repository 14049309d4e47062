/-
  Contract of the program's ThenPerm.
-/
import Derived.Test.YtpafloeghbfdgaaFns3
namespace Go.Proofs.Ytpafloeghbfdgaa.fns
open Go.ChangeShapes Go.WideShapes Go.ChangeAt Go.RowKit
open Go.Proofs.Ytpafloeghbfdgaa.mem Go.Proofs.Ytpafloeghbfdgaa.ints Go.Proofs.Ytpafloeghbfdgaa.arr Go.Proofs.Ytpafloeghbfdgaa.pm Go.Proofs.Ytpafloeghbfdgaa.permOk Go.Proofs.Ytpafloeghbfdgaa.permOf Go.Proofs.Ytpafloeghbfdgaa.inv
set_option linter.unusedVariables false
set_option maxRecDepth 100000

end Go.Proofs.Ytpafloeghbfdgaa.fns
