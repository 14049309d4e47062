/-
  RenameSurface of the program.
-/
import Derived.Test.YtdoohnphgembdaaRs
namespace Go.Proofs.Ytdoohnphgembdaa.gl
open Go.ChangeShapes Go.WideShapes Go.ChangeAt Go.RowKit
open Go.Proofs.Ytdoohnphgembdaa.mem Go.Proofs.Ytdoohnphgembdaa.ints Go.Proofs.Ytdoohnphgembdaa.arr Go.Proofs.Ytdoohnphgembdaa.pm Go.Proofs.Ytdoohnphgembdaa.permOk Go.Proofs.Ytdoohnphgembdaa.permOf Go.Proofs.Ytdoohnphgembdaa.inv Go.Proofs.Ytdoohnphgembdaa.fns Go.Proofs.Ytdoohnphgembdaa.sf
set_option linter.unusedVariables false
set_option maxRecDepth 100000

theorem take_ren24 {n : Nat} {xs ys : List Int} (h : Ok xs) (h' : Ok ys) (lx : xs.length = n) (ly : ys.length = n) : (ren24 (ext xs) (ext ys)).take n = renTo n xs ys n := by
  rw [ren24_ext h h' lx ly]
  have e := ext_take (renTo n xs ys n) (by rw [renTo_len]; have := h.len; omega)
  rwa [renTo_len] at e

end Go.Proofs.Ytdoohnphgembdaa.gl
