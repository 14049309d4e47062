/-
  CanonOf, CountSymmetries and AreIsomorphic of the program.
-/
import Derived.Test.YtabiakcndddmkaaCn
import Derived.Test.YtabiakcndddmkaaRi
namespace Go.Proofs.Ytabiakcndddmkaa.gl
open Go.ChangeShapes Go.WideShapes Go.ChangeAt Go.RowKit
open Go.Proofs.Ytabiakcndddmkaa.mem Go.Proofs.Ytabiakcndddmkaa.ints Go.Proofs.Ytabiakcndddmkaa.arr Go.Proofs.Ytabiakcndddmkaa.pm Go.Proofs.Ytabiakcndddmkaa.permOk Go.Proofs.Ytabiakcndddmkaa.permOf Go.Proofs.Ytabiakcndddmkaa.inv Go.Proofs.Ytabiakcndddmkaa.fns Go.Proofs.Ytabiakcndddmkaa.sf
set_option linter.unusedVariables false
set_option maxRecDepth 100000

/-- What CanonOf gives. -/
def cfR (r u : List Int) : List Int := if transB r u then (can r u r.length).1 else []
def cfU (r u : List Int) : List Int := if transB r u then (can r u r.length).2 else []
theorem can_len (r u : List Int) {n : Nat} (h : 0 < n) : (can r u n).1.length = n ∧ (can r u n).2.length = n := by
  obtain ⟨j, hj, e⟩ := can_is (R := r) (U := u) h
  rw [e]; exact Fm_len _ _ _ _
theorem cf_yes {r u : List Int} (h : transB r u = true) : cfR r u = (can r u r.length).1 ∧ cfU r u = (can r u r.length).2 := by simp [cfR, cfU, h]
theorem cf_no {r u : List Int} (h : transB r u = false) : cfR r u = [] ∧ cfU r u = [] := by simp [cfR, cfU, h]
theorem cfR_len (r u : List Int) : (cfR r u).length ≤ 1048576 := by
  unfold cfR; split
  · rename_i h; have s := transB_iff.1 h; rw [(can_len r u s.pos).1]; have := s.r.len; omega
  · simp
theorem cfU_len (r u : List Int) : (cfU r u).length ≤ 1048576 := by
  unfold cfU; split
  · rename_i h; have s := transB_iff.1 h; rw [(can_len r u s.pos).2]; have := s.r.len; omega
  · simp
def csF (r u : List Int) : Int := if transB r u then (sym r u r.length : Int) else 0
theorem cs_yes {r u : List Int} (h : transB r u = true) : csF r u = (sym r u r.length : Int) := by simp [csF, h]
theorem cs_no {r u : List Int} (h : transB r u = false) : csF r u = 0 := by simp [csF, h]

end Go.Proofs.Ytabiakcndddmkaa.gl
