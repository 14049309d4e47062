/-
  Contract of the program's ThenPerm.
-/
import Derived.Test.YtpklppnkhkjjeaaFns3
namespace Go.Proofs.Ytpklppnkhkjjeaa.fns
open Go.ChangeShapes Go.WideShapes Go.ChangeAt Go.RowKit
open Go.Proofs.Ytpklppnkhkjjeaa.mem Go.Proofs.Ytpklppnkhkjjeaa.ints Go.Proofs.Ytpklppnkhkjjeaa.arr Go.Proofs.Ytpklppnkhkjjeaa.pm Go.Proofs.Ytpklppnkhkjjeaa.permOk Go.Proofs.Ytpklppnkhkjjeaa.permOf Go.Proofs.Ytpklppnkhkjjeaa.inv
set_option linter.unusedVariables false

end Go.Proofs.Ytpklppnkhkjjeaa.fns
