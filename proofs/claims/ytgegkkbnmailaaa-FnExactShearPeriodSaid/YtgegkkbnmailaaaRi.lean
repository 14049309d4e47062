/-
  RenameSurface of the program.
-/
import Derived.Test.YtgegkkbnmailaaaRs
namespace Go.Proofs.Ytgegkkbnmailaaa.gl
open Go.ChangeShapes Go.WideShapes Go.ChangeAt Go.RowKit
open Go.Proofs.Ytgegkkbnmailaaa.mem Go.Proofs.Ytgegkkbnmailaaa.ints Go.Proofs.Ytgegkkbnmailaaa.arr Go.Proofs.Ytgegkkbnmailaaa.pm Go.Proofs.Ytgegkkbnmailaaa.permOk Go.Proofs.Ytgegkkbnmailaaa.permOf Go.Proofs.Ytgegkkbnmailaaa.inv Go.Proofs.Ytgegkkbnmailaaa.fns Go.Proofs.Ytgegkkbnmailaaa.sf
set_option linter.unusedVariables false
set_option maxRecDepth 100000

theorem take_ren24 {n : Nat} {xs ys : List Int} (h : Ok xs) (h' : Ok ys) (lx : xs.length = n) (ly : ys.length = n) : (ren24 (ext xs) (ext ys)).take n = renTo n xs ys n := by
  rw [ren24_ext h h' lx ly]
  have e := ext_take (renTo n xs ys n) (by rw [renTo_len]; have := h.len; omega)
  rwa [renTo_len] at e

end Go.Proofs.Ytgegkkbnmailaaa.gl
