/-
  NamesFrom, of the model and of the program.
-/
import Derived.Test.YtkkklpchkkdhfaaNr
namespace Go.Proofs.Ytkkklpchkkdhfaa.gl
open Go.ChangeShapes Go.WideShapes Go.ChangeAt Go.RowKit
open Go.Proofs.Ytkkklpchkkdhfaa.mem Go.Proofs.Ytkkklpchkkdhfaa.ints Go.Proofs.Ytkkklpchkkdhfaa.arr Go.Proofs.Ytkkklpchkkdhfaa.pm Go.Proofs.Ytkkklpchkkdhfaa.permOk Go.Proofs.Ytkkklpchkkdhfaa.permOf Go.Proofs.Ytkkklpchkkdhfaa.inv Go.Proofs.Ytkkklpchkkdhfaa.fns Go.Proofs.Ytkkklpchkkdhfaa.sf
set_option linter.unusedVariables false
set_option maxRecDepth 100000

theorem ext_take (xs : List Int) (h : xs.length ≤ 24) : (ext xs).take xs.length = xs := by
  refine list_eq xs.length (by simp [ext_len]; omega) rfl fun i hi => ?_
  have e : (ext xs).getD i 0 = xs.getD i 0 := by rw [ext_at (by omega), if_pos hi]
  rw [← e]
  simp [List.getD, hi]
/-- The names from a square, if there is one. -/
def nfF (r u : List Int) (a : Int) : List Int := if transB r u = true ∧ 0 ≤ a ∧ a < r.length then nm r u a else []
theorem nfF_no {r u : List Int} {a : Int} (h : ¬ (transB r u = true ∧ 0 ≤ a ∧ a < r.length)) : nfF r u a = [] := by unfold nfF; rw [if_neg h]
theorem nfF_yes {r u : List Int} {a : Int} (h : transB r u = true) (a0 : 0 ≤ a) (a1 : a < r.length) : nfF r u a = nm r u a := by unfold nfF; rw [if_pos ⟨h, a0, a1⟩]
theorem nfF_len (r u : List Int) (a : Int) : (nfF r u a).length ≤ 1048576 := by
  unfold nfF; split
  · rename_i h
    obtain ⟨nk, nl⟩ := (transB_iff.1 h.1).nok h.2.1 h.2.2
    have := nk.len; omega
  · simp

end Go.Proofs.Ytkkklpchkkdhfaa.gl
