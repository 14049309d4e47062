/-
  Words on surfaces: l05Letter, l05Run and RunWord of the model, RunWord of the program.
-/
import Derived.Test.YtpmojmhamgcfmaaWLb
import Derived.Deep.CutRange
namespace Go.Proofs.Ytpmojmhamgcfmaa.rw
open Go.ChangeShapes Go.WideShapes Go.ChangeAt Go.RowKit
open Go.Proofs.Ytpmojmhamgcfmaa.mem Go.Proofs.Ytpmojmhamgcfmaa.ints Go.Proofs.Ytpmojmhamgcfmaa.arr Go.Proofs.Ytpmojmhamgcfmaa.pm Go.Proofs.Ytpmojmhamgcfmaa.permOk Go.Proofs.Ytpmojmhamgcfmaa.permOf Go.Proofs.Ytpmojmhamgcfmaa.inv Go.Proofs.Ytpmojmhamgcfmaa.fns Go.Proofs.Ytpmojmhamgcfmaa.sf Go.Proofs.Ytpmojmhamgcfmaa.gl Go.Proofs.Ytpmojmhamgcfmaa.mk Go.Proofs.Ytpmojmhamgcfmaa.lw Go.Proofs.Ytpmojmhamgcfmaa.la Go.Proofs.Ytpmojmhamgcfmaa.wd
set_option linter.unusedVariables false
set_option maxRecDepth 100000
theorem letS84 {c : UInt8} (h : c.toNat = 84) (s : Sur) : letS c s = shearS s := by simp [letS, h]
theorem letS116 {c : UInt8} (h : c.toNat = 116) (s : Sur) : letS c s = unshearS s := by simp [letS, h]
theorem letS83 {c : UInt8} (h : c.toNat = 83) (s : Sur) : letS c s = turnS s := by simp [letS, h]
theorem letS115 {c : UInt8} (h : c.toNat = 115) (s : Sur) : letS c s = unturnS s := by simp [letS, h]
/-- What l05Run keeps between two letters: a box with the surface's headers, two rows, each apart from the others. -/
def Bx (w wr : World) (B5 m : Nat) (r u : List Int) : Prop :=
  ∃ P c Q d l1 h1 l2 h2, Arr wr B5 [.slice P m c, .slice Q m d] 25 ∧ Row wr l1 h1 P m (V r) ∧ Row wr l2 h2 Q m (V u) ∧ m ≤ c ∧ m ≤ d ∧ w.heap.size + 2 ≤ l1 ∧ w.heap.size + 2 ≤ l2 ∧ (h1 ≤ l2 ∨ h2 ≤ l1) ∧
    (h1 ≤ B5 ∨ B5 < l1) ∧ (h2 ≤ B5 ∨ B5 < l2) ∧ w.heap.size + 2 ≤ B5 ∧ Arr wr (w.heap.size + 1) [.slice none 0 0, .slice none 0 0] 25 ∧ Below w.heap.size w wr
theorem row_set {w : World} {lo hi n g : Nat} {A : Option Addr} {xs : List Value} (h : Row w lo hi A n xs) (hg : hi ≤ g ∨ g < lo) (cs : Array Value) : Row (w.setRow g cs) lo hi A n xs :=
  h.out ((Out.refl g (g + 1) w).row_ (Nat.le_refl _) (Nat.lt_succ_self _) cs) (by omega)
theorem own_far {w w' : World} {base b : Nat} {e : TypeId} {g n c : Nat} {xs : List Value} {v : Value} (h : w.ownsRow base e 1 (.slice (some ⟨g, 0, none⟩) n c) n xs) (hg : w.grownBy w' v.ownBlock) (hv : v.ownBlock = some b) (hne : g ≠ b) : w'.ownsRow base e 1 (.slice (some ⟨g, 0, none⟩) n c) n xs := by
  refine ⟨h.1, ?_⟩
  rcases h.2 with ⟨h0, _⟩ | ⟨g', cap, cur, q1, q2, q3, q4⟩
  · exact absurd h0 (by simp)
  · refine .inr ⟨g', cap, cur, q1, q2, ?_, q4⟩
    injection q1 with q1 _ _; injection q1 with q1; injection q1 with q1 _ _
    subst q1
    rw [hg.block _ (Array.getElem?_eq_some_iff.1 q3).1 (by rw [hv]; intro e; cases e; exact hne rfl)]; exact q3
theorem arr_far {w w' : World} {g b : Nat} {cs : List Value} {t : TypeId} {v : Value} (h : Arr w g cs t) (hg : w.grownBy w' v.ownBlock) (hv : v.ownBlock = some b) (hne : g ≠ b) : Arr w' g cs t := by
  unfold Arr
  rw [hg.block _ h.lt (by rw [hv]; intro e; cases e; exact hne rfl)]; exact h
end Go.Proofs.Ytpmojmhamgcfmaa.rw
