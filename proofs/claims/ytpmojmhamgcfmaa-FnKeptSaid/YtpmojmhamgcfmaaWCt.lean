/-
  CountSymmetries of the model.
-/
import Derived.Test.YtpmojmhamgcfmaaWCf
namespace Go.Proofs.Ytpmojmhamgcfmaa.gl
open Go.ChangeShapes Go.WideShapes Go.ChangeAt Go.RowKit
open Go.Proofs.Ytpmojmhamgcfmaa.mem Go.Proofs.Ytpmojmhamgcfmaa.ints Go.Proofs.Ytpmojmhamgcfmaa.arr Go.Proofs.Ytpmojmhamgcfmaa.pm Go.Proofs.Ytpmojmhamgcfmaa.permOk Go.Proofs.Ytpmojmhamgcfmaa.permOf Go.Proofs.Ytpmojmhamgcfmaa.inv Go.Proofs.Ytpmojmhamgcfmaa.fns Go.Proofs.Ytpmojmhamgcfmaa.sf
set_option linter.unusedVariables false
set_option maxRecDepth 100000

/-- How many of the first k forms are the canonical one. -/
def symTo (r u : List Int) (n k : Nat) : Nat := (List.range k).countP fun (i : Nat) => decide (Fm r u n (i : Int) = can r u n)
theorem symTo_succ (r u : List Int) (n k : Nat) : symTo r u n (k + 1) = symTo r u n k + if Fm r u n (k : Int) = can r u n then 1 else 0 := by
  unfold symTo
  rw [List.range_succ, List.countP_append]
  simp [List.countP_cons]
theorem symTo_le (r u : List Int) (n k : Nat) : symTo r u n k ≤ k := by
  unfold symTo
  have := List.countP_le_length (p := fun (i : Nat) => decide (Fm r u n (i : Int) = can r u n)) (l := List.range k)
  simpa using this
/-- The argument's box and the box of the canonical form. -/
structure Ct (w wr : World) (a b : Value) (n B3 : Nat) (f : Sur) : Prop where
  g : Arr wr w.heap.size [a, b] 25
  best : Bs wr B3 (w.heap.size + 1) n f
  hB : w.heap.size + 1 ≤ B3
  below : Below w.heap.size w wr
theorem Ct.keep {w wr w' : World} {a b : Value} {n B3 : Nat} {f : Sur} (h : Ct w wr a b n B3 f) (hb : Below wr.heap.size wr w') : Ct w w' a b n B3 f :=
  ⟨h.g.keep hb h.g.lt, h.best.keep hb, h.hB, h.below.trans (hb.mono h.below.size)⟩

theorem same_dec (a b : Sur) : sameF a.1 a.2 b.1 b.2 = decide (a = b) := by
  obtain ⟨a1, a2⟩ := a; obtain ⟨b1, b2⟩ := b
  unfold sameF eqi
  rw [← Bool.decide_and, decide_eq_decide]
  simp
end Go.Proofs.Ytpmojmhamgcfmaa.gl
