/-
  Contracts of the methods of impl.perm: list, inverse, then.
-/
import Derived.Test.YtajkfkpnjbkhhaaPermOf
import Derived.Laws.CopyOwn
namespace Go.Proofs.Ytajkfkpnjbkhhaa.inv
open Go.ChangeShapes Go.WideShapes Go.ChangeAt Go.RowKit
open Go.Proofs.Ytajkfkpnjbkhhaa.mem Go.Proofs.Ytajkfkpnjbkhhaa.ints Go.Proofs.Ytajkfkpnjbkhhaa.arr Go.Proofs.Ytajkfkpnjbkhhaa.pm Go.Proofs.Ytajkfkpnjbkhhaa.permOk Go.Proofs.Ytajkfkpnjbkhhaa.permOf
set_option linter.unusedVariables false
set_option maxRecDepth 100000

/-- All numbers are from 0 up to 24. -/
structure Sq (qs : List Int) : Prop where
  len : qs.length = 24
  lo : ∀ i, i < 24 → 0 ≤ qs.getD i 0
  hi : ∀ i, i < 24 → qs.getD i 0 < 24
theorem Sq.at_ {qs : List Int} (h : Sq qs) {i : Nat} (hi : i < 24) : ∃ z : Nat, z < 24 ∧ qs[i]? = some (z : Int) ∧ qs.getD i 0 = (z : Int) := by
  have h1 := h.lo i hi; have h2 := h.hi i hi
  have e : qs[i]? = some (qs.getD i 0) := by rw [List.getD, List.getElem?_eq_getElem (by rw [h.len]; exact hi)]; rfl
  exact ⟨(qs.getD i 0).toNat, by omega, by rw [e]; congr 1; omega, by omega⟩

/-- Where k up to n goes under the inverse of qs, as far as the first k elements say. -/
def invTo (n : Nat) (qs : List Int) : Nat → List Int
  | 0 => List.replicate n 0
  | k + 1 => (invTo n qs k).set (qs.getD k 0).toNat (k : Int)
theorem invTo_len (n : Nat) (qs : List Int) (k : Nat) : (invTo n qs k).length = n := by
  induction k with
  | zero => simp [invTo]
  | succ k ih => simp [invTo, ih]
/-- First ps, then qs. -/
def thenL (ps qs : List Int) : List Int := tab fun i => qs.getD (ps.getD i 0).toNat 0
end Go.Proofs.Ytajkfkpnjbkhhaa.inv
