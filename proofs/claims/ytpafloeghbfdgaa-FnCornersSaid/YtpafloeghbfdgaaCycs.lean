/-
  Contract of the program's cycles and CyclesOf.
-/
import Derived.Test.YtpafloeghbfdgaaMg
namespace Go.Proofs.Ytpafloeghbfdgaa.fns
open Go.ChangeShapes Go.WideShapes Go.ChangeAt Go.RowKit
open Go.Proofs.Ytpafloeghbfdgaa.mem Go.Proofs.Ytpafloeghbfdgaa.ints Go.Proofs.Ytpafloeghbfdgaa.arr Go.Proofs.Ytpafloeghbfdgaa.pm Go.Proofs.Ytpafloeghbfdgaa.permOk Go.Proofs.Ytpafloeghbfdgaa.permOf Go.Proofs.Ytpafloeghbfdgaa.inv Go.Proofs.Ytpafloeghbfdgaa.mat
set_option linter.unusedVariables false
set_option maxRecDepth 100000

theorem infoII : (Try.prog.info? 23).map (fun i => (i.zero, i.size, i.bytes)) = some (some (.slice none 0 0), 1, 24) := by kernel_rfl
theorem flagsOf_set {l : List Int} {z : Nat} : (flagsOf l).set z true = flagsOf (l ++ [(z : Int)]) := by
  refine tabB_set _ _ fun j hj => ?_
  by_cases hjz : j = z
  · subst hjz; simp
  · have : ¬ ((j : Int) = (z : Int)) := by omega
    simp [hjz, this]
/-- A boxed permutation, the flags of all rows, and the rows that grow. -/
structure Cm (w wr : World) (ps : List Int) (v : Value) (xss : List (List Int)) : Prop where
  p : Arr wr w.heap.size (V ps) 61
  met : Arr wr (w.heap.size + 1) (VB (flagsOf xss.flatten)) 98
  below : Below w.heap.size w wr
  mg : Mg wr (w.heap.size + 2) (w.heap.size + 2) (w.heap.size + 1) v xss
def MGives (xss : List (List Int)) (w : World) (e : Ending) (w' : World) : Prop := ∃ A c, e = .returned (.slice A xss.length c) ∧ Mat w' w.heap.size w'.heap.size A xss.length xss ∧ Below w.heap.size w w'
def Mk (w w1 wr : World) (S : List Int) : Prop := Out (w.heap.size + 1) (w.heap.size + 2) w1 wr ∧ Arr wr (w.heap.size + 1) (VB (flagsOf S)) 98

end Go.Proofs.Ytpafloeghbfdgaa.fns
