/-
  l10Less of the model: lists in ascending lexicographic order.
-/
import Derived.Test.YtafpbnjfmieamaaY23
import Derived.Test.YtafpbnjfmieamaaY16
namespace Go.Proofs.Ytafpbnjfmieamaa.lst
open Go.ChangeShapes Go.WideShapes Go.ChangeAt Go.RowKit
open Go.Proofs.Ytafpbnjfmieamaa.mem Go.Proofs.Ytafpbnjfmieamaa.ints Go.Proofs.Ytafpbnjfmieamaa.arr Go.Proofs.Ytafpbnjfmieamaa.pm Go.Proofs.Ytafpbnjfmieamaa.sf
set_option linter.unusedVariables false
set_option maxRecDepth 100000

/-- Behind the first k, which are the same. -/
theorem lessX_drop {xs ys : List Int} : ∀ {k : Nat}, k ≤ xs.length → (∀ j, j < k → xs[j]? = ys[j]?) → lessX xs ys = lessX (xs.drop k) (ys.drop k)
  | 0, _, _ => by simp
  | k + 1, hk, h => by
    rw [lessX_drop (k := k) (by omega) (fun j hj => h j (by omega))]
    have e := h k (by omega)
    have hx := List.getElem?_eq_getElem (show k < xs.length by omega)
    rw [hx] at e
    obtain ⟨hy, ey⟩ := List.getElem?_eq_some_iff.1 e.symm
    rw [List.drop_eq_getElem_cons (show k < xs.length by omega), List.drop_eq_getElem_cons hy, ey, lessX, if_pos rfl]
theorem lessX_end {xs ys : List Int} {k : Nat} (hk : k < xs.length) (hy : ys.length ≤ k) (h : ∀ j, j < k → xs[j]? = ys[j]?) : lessX xs ys = false := by
  rw [lessX_drop (by omega) h, List.drop_eq_getElem_cons hk, List.drop_of_length_le hy]
  rfl
theorem lessX_at {xs ys : List Int} {k : Nat} {s t : Int} (hx : xs[k]? = some s) (hy : ys[k]? = some t) (h : ∀ j, j < k → xs[j]? = ys[j]?) (hne : s ≠ t) : lessX xs ys = decide (s < t) := by
  obtain ⟨h1, e1⟩ := List.getElem?_eq_some_iff.1 hx
  obtain ⟨h2, e2⟩ := List.getElem?_eq_some_iff.1 hy
  rw [lessX_drop (by omega) h, List.drop_eq_getElem_cons h1, List.drop_eq_getElem_cons h2, e1, e2, lessX, if_neg hne]
theorem lessX_all {xs ys : List Int} (h : ∀ j, j < xs.length → xs[j]? = ys[j]?) : lessX xs ys = decide (xs.length < ys.length) := by
  rw [lessX_drop (Nat.le_refl _) h, List.drop_of_length_le (Nat.le_refl _), lessX]
  by_cases q : xs.length < ys.length
  · rw [List.drop_eq_getElem_cons q]; simp [q]
  · rw [List.drop_of_length_le (by omega)]; simp [q]
end Go.Proofs.Ytafpbnjfmieamaa.lst
