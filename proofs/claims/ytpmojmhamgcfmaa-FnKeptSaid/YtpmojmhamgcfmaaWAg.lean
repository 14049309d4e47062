/-
  Contracts of the model's GenusOf and IsRegularCorner.
-/
import Derived.Test.YtpmojmhamgcfmaaY12
import Derived.IntWalk
namespace Go.Proofs.Ytpmojmhamgcfmaa.gl
open Go.ChangeShapes Go.WideShapes Go.ChangeAt Go.RowKit
open Go.Proofs.Ytpmojmhamgcfmaa.mem Go.Proofs.Ytpmojmhamgcfmaa.ints Go.Proofs.Ytpmojmhamgcfmaa.arr Go.Proofs.Ytpmojmhamgcfmaa.pm Go.Proofs.Ytpmojmhamgcfmaa.permOk Go.Proofs.Ytpmojmhamgcfmaa.permOf Go.Proofs.Ytpmojmhamgcfmaa.inv Go.Proofs.Ytpmojmhamgcfmaa.fns Go.Proofs.Ytpmojmhamgcfmaa.sf Go.Proofs.Ytpmojmhamgcfmaa.mat
set_option linter.unusedVariables false
set_option maxRecDepth 100000

theorem corF_le (r u : List Int) : (corF r u).length ≤ r.length := by
  cases h : transB r u with
  | false => rw [corF_no h]; simp
  | true =>
    have s := transB_iff.1 h
    rw [corF_yes h]
    exact (cso_cs s.commB r.length (Nat.le_refl _)).len
theorem genF_yes {r u : List Int} (h : transB r u = true) {n : Nat} (hn : r.length = n) : genF r u = 1 + ((n : Int) - ((corF r u).length : Int)) / 2 := by subst hn; simp [genF, h]
theorem genF_no {r u : List Int} (h : transB r u = false) : genF r u = -1 := by simp [genF, h]
theorem wrap_in {a : Int} (h1 : -100 ≤ a) (h2 : a ≤ 100) : IntKind.i64.wrap a = a := IntWalk.i64_in _ (by omega)

theorem regF_not {r u : List Int} (h : transB r u = false) (a : Int) : regF r u a = false := by simp [regF, h]
theorem regF_neg {r u : List Int} {a : Int} (h : a < 0) : regF r u a = false := by
  have : decide (0 ≤ a) = false := by simp; omega
  simp [regF, this]
theorem regF_big {r u : List Int} {a : Int} (h : (r.length : Int) ≤ a) : regF r u a = false := by
  have : decide (a < (r.length : Int)) = false := by simp; omega
  simp [regF, this]
theorem regF_in {r u : List Int} (h : transB r u = true) {f : Nat} (hf : f < r.length) {z : Int} (hz : (comm r u).getD f 0 = z) : regF r u (f : Int) = (z == (f : Int)) := by
  subst hz
  have h1 : decide (0 ≤ (f : Int)) = true := by simp
  have h2 : decide ((f : Int) < (r.length : Int)) = true := by simp; omega
  unfold regF
  rw [h, h1, h2, Int.toNat_natCast, Bool.eq_iff_iff]
  simp
end Go.Proofs.Ytpmojmhamgcfmaa.gl
