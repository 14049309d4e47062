/-
  Contracts of the laws' same, sorted, lengths.
-/
import Derived.Test.YtglpiopjhddoeaaSortM
import Derived.Test.YtglpiopjhddoeaaMg
namespace Go.Proofs.Ytglpiopjhddoeaa.fns
open Go.ChangeShapes Go.WideShapes Go.ChangeAt Go.RowKit
open Go.Proofs.Ytglpiopjhddoeaa.mem Go.Proofs.Ytglpiopjhddoeaa.ints Go.Proofs.Ytglpiopjhddoeaa.arr Go.Proofs.Ytglpiopjhddoeaa.pm Go.Proofs.Ytglpiopjhddoeaa.mat
set_option linter.unusedVariables false
set_option maxRecDepth 100000

theorem Grows.set_ {w wr : World} {b cc : Nat} {l : List Int} (h : Grows w wr (.slice (some ⟨b, 0, none⟩) l.length cc) l) (k : Nat) (z : Int) : Grows w (wr.setCell ⟨b, k, none⟩ (.int .i64 z)) (.slice (some ⟨b, 0, none⟩) (l.set k z).length cc) (l.set k z) := by
  have hb := h.own.lt b rfl
  have := (h.own.stored k (.int .i64 z)).1
  rw [V_set] at this
  exact ⟨by simpa using this, h.below.setCell hb.1 _⟩

def lensF (xss : List (List Int)) : List Int := xss.map fun xs => (xs.length : Int)
end Go.Proofs.Ytglpiopjhddoeaa.fns
