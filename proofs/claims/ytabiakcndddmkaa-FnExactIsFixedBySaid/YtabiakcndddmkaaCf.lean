/-
  CanonOf of the model.
-/
import Derived.Test.YtabiakcndddmkaaCs
namespace Go.Proofs.Ytabiakcndddmkaa.gl
open Go.ChangeShapes Go.WideShapes Go.ChangeAt Go.RowKit
open Go.Proofs.Ytabiakcndddmkaa.mem Go.Proofs.Ytabiakcndddmkaa.ints Go.Proofs.Ytabiakcndddmkaa.arr Go.Proofs.Ytabiakcndddmkaa.pm Go.Proofs.Ytabiakcndddmkaa.permOk Go.Proofs.Ytabiakcndddmkaa.permOf Go.Proofs.Ytabiakcndddmkaa.inv Go.Proofs.Ytabiakcndddmkaa.fns Go.Proofs.Ytabiakcndddmkaa.sf
set_option linter.unusedVariables false
set_option maxRecDepth 100000

end Go.Proofs.Ytabiakcndddmkaa.gl
