/-
  Contract of the program's CornersOf.
-/
import Derived.Test.YtpmojmhamgcfmaaWCl
import Derived.Test.YtpmojmhamgcfmaaY12
namespace Go.Proofs.Ytpmojmhamgcfmaa.gl
open Go.ChangeShapes Go.WideShapes Go.ChangeAt Go.RowKit
open Go.Proofs.Ytpmojmhamgcfmaa.mem Go.Proofs.Ytpmojmhamgcfmaa.ints Go.Proofs.Ytpmojmhamgcfmaa.arr Go.Proofs.Ytpmojmhamgcfmaa.pm Go.Proofs.Ytpmojmhamgcfmaa.permOk Go.Proofs.Ytpmojmhamgcfmaa.permOf Go.Proofs.Ytpmojmhamgcfmaa.inv Go.Proofs.Ytpmojmhamgcfmaa.fns Go.Proofs.Ytpmojmhamgcfmaa.sf Go.Proofs.Ytpmojmhamgcfmaa.mat Go.Proofs.Ytpmojmhamgcfmaa.rf
set_option linter.unusedVariables false
set_option maxRecDepth 100000

theorem cso_pos {n : Nat} {ps : List Int} (hb : Bij n ps) : ∀ c ∈ cso ps n n, 0 < c.length := by
  intro c hc
  obtain ⟨i, hi, rfl⟩ := cso_cyc n (Nat.le_refl _) c hc
  exact (cyc_way (f := (i : Int)) hb (by omega) (by omega)).pos
theorem cso_le {n : Nat} {ps : List Int} (hb : Bij n ps) : (cso ps n n).length ≤ n := (cso_cs hb n (Nat.le_refl _)).len

theorem corF_bnd (r u : List Int) : (corF r u).length ≤ 1048576 ∧ tot (corF r u) ≤ 1048576 := by
  have := corF_small r u
  exact ⟨by omega, by have := this.2; unfold tot; omega⟩end Go.Proofs.Ytpmojmhamgcfmaa.gl
