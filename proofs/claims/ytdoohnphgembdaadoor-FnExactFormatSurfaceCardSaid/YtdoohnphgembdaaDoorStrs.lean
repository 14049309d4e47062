/-
  Contracts of the laws' helpers on slices of strings: eqStringS, markText, markStringS, heldStringS.
-/
import Derived.Test.YtdoohnphgembdaaDoorStrDefs
import Derived.Outline
import Derived.Laws.Concat
import Derived.Deep.AppendLies
import Derived.Deep.RegionHeld3
namespace Go.Proofs.YtdoohnphgembdaaDoor.strs
open Go.ChangeShapes Go.WideShapes Go.ChangeAt Go.RowKit
open Go.Proofs.YtdoohnphgembdaaDoor.mem
set_option linter.unusedVariables false
set_option maxRecDepth 100000

def eqs (xs ys : List ByteArray) : Bool := decide (xs = ys)
def Same (xs ys : List ByteArray) (k : Nat) : Prop := ∀ j, j < k → xs[j]? = ys[j]?

theorem beq_yes {s t : ByteArray} (h : s = t) : (s.toList == t.toList) = true := by simp [h]
theorem beq_no {s t : ByteArray} (h : s ≠ t) : (s.toList == t.toList) = false := by
  rw [beq_eq_false_iff_ne]
  intro e
  rw [ByteArray.toList_eq, ByteArray.toList_eq] at e
  exact h (bytes_inj e)
theorem Same.step {xs ys : List ByteArray} {k : Nat} {s : ByteArray} (h : Same xs ys k) (h1 : xs[k]? = some s) (h2 : ys[k]? = some s) : Same xs ys (k + 1) := by
  intro j hj
  by_cases e : j = k
  · subst e; rw [h1, h2]
  · exact h j (by omega)
theorem eqs_no {xs ys : List ByteArray} {k : Nat} {s t : ByteArray} (h1 : xs[k]? = some s) (h2 : ys[k]? = some t) (h : s ≠ t) : eqs xs ys = false := by
  unfold eqs
  rw [decide_eq_false_iff_not]
  rintro rfl
  rw [h1] at h2
  exact h (Option.some.inj h2)
theorem eqs_len {xs ys : List ByteArray} (h : xs.length ≠ ys.length) : eqs xs ys = false := by
  unfold eqs
  rw [decide_eq_false_iff_not]
  rintro rfl
  exact h rfl
theorem eqs_yes {xs ys : List ByteArray} {n : Nat} (h1 : xs.length = n) (h2 : ys.length = n) (h : Same xs ys n) : eqs xs ys = true := by
  unfold eqs
  rw [decide_eq_true_iff]
  refine List.ext_getElem? fun i => ?_
  by_cases hi : i < n
  · exact h i hi
  · rw [List.getElem?_eq_none (by omega), List.getElem?_eq_none (by omega)]

def dg : Nat → Int → List UInt8 → List UInt8
  | 0, _, acc => acc
  | b + 1, k, acc => if k ≤ 0 then acc else dg b (k / 10) (UInt8.ofNat (48 + k % 10).toNat :: acc)
def mk (k : Int) : ByteArray := ⟨(109 :: dg k.toNat k []).toArray⟩

def Marks (k : Int) (n : Nat) : List ByteArray := (List.range n).map fun (i : Nat) => mk (k + (i : Int))
theorem marks_at {k : Int} {n j : Nat} (h : j < n) : (S (Marks k n))[j]? = some (.string (mk (k + j))) := by
  simp [S, Marks, h]
def Upto (ys : List Value) (k : Int) (j : Nat) : Prop := ∀ i : Nat, i < j → ys[i]? = some (.string (mk (k + i)))
theorem Upto.all {ys : List Value} {k : Int} {n : Nat} (h : Upto ys k n) (hl : ys.length = n) : ys = S (Marks k n) := by
  refine List.ext_getElem? fun i => ?_
  by_cases hi : i < n
  · rw [h i hi, marks_at hi]
  · rw [List.getElem?_eq_none (by omega), List.getElem?_eq_none (by simp [S, Marks]; omega)]
theorem Upto.step {ys : List Value} {k : Int} {j : Nat} (h : Upto ys k j) (hl : j < ys.length) : Upto (ys.set j (.string (mk (k + j)))) k (j + 1) := by
  intro i hi
  by_cases e : i = j
  · subst e; rw [List.getElem?_set_self hl]
  · rw [List.getElem?_set_ne (by omega)]; exact h i (by omega)
def MarkRel (A : Option Addr) (n lo hi : Nat) (k : Int) (w wr : World) (j : Nat) : Prop := ∃ ys, Row wr lo hi A n ys ∧ Upto ys k j ∧ Out lo hi w wr

end Go.Proofs.YtdoohnphgembdaaDoor.strs
