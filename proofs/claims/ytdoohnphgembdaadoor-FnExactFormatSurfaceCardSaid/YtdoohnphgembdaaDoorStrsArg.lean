/-
  Contracts of the laws' helpers on slices of strings that came in: szStringS (a bound on their sizes), toStringS (a copy).
-/
import Derived.Test.YtdoohnphgembdaaDoorStrs
namespace Go.Proofs.YtdoohnphgembdaaDoor.strsArg
open Go.ChangeShapes Go.WideShapes Go.ChangeAt Go.RowKit
open Go.Proofs.YtdoohnphgembdaaDoor.mem Go.Proofs.YtdoohnphgembdaaDoor.strs
set_option linter.unusedVariables false
set_option maxRecDepth 100000

def szOf (k : Int) (xs : List ByteArray) : Int := if xs.length + (sm xs : Int) ≤ k then k - xs.length - sm xs else -1

def Upto (ys : List Value) (xs : List ByteArray) (j : Nat) : Prop := ∀ i : Nat, i < j → ys[i]? = (S xs)[i]?
theorem Upto.step {ys : List Value} {xs : List ByteArray} {j : Nat} {s : ByteArray} (h : Upto ys xs j) (hl : j < ys.length) (hs : (S xs)[j]? = some (.string s)) : Upto (ys.set j (.string s)) xs (j + 1) := by
  intro i hi
  by_cases e : i = j
  · subst e; rw [List.getElem?_set_self hl, hs]
  · rw [List.getElem?_set_ne (by omega)]; exact h i (by omega)
theorem Upto.all {ys : List Value} {xs : List ByteArray} {n : Nat} (h : Upto ys xs n) (hl : ys.length = n) (hx : xs.length = n) : ys = S xs := by
  refine List.ext_getElem? fun i => ?_
  by_cases hi : i < n
  · exact h i hi
  · rw [List.getElem?_eq_none (by omega), List.getElem?_eq_none (by simp [S]; omega)]
def CopyRel (xs : List ByteArray) (n : Nat) (w wr : World) (j : Nat) : Prop := ∃ ys, wr.ownsRow w.heap.size 9 1 (.slice (some ⟨w.heap.size, 0, none⟩) n n) n ys ∧ Upto ys xs j ∧ Below w.heap.size w wr

end Go.Proofs.YtdoohnphgembdaaDoor.strsArg
