/-
  The contract of the program's isDigit.
-/
import Derived.Test.YtfcocfaobglbaaaDoorRows
import Derived.WalkKit
import Derived.ProofKit
import Derived.OpenShut
import Derived.ShutString
import Derived.Laws.RangeAny
import Derived.Lib.Hide
namespace Go.Proofs.YtfcocfaobglbaaaDoor.digits
open Go.ChangeShapes Go.WideShapes Go.ChangeAt Go.RowKit
set_option linter.unusedVariables false

theorem retb {a b : Bool} (h : a = b) : Ending.returned (.bool a) = .returned (.bool b) := by rw [h]
def digB (n : Int) : Bool := decide (48 ≤ n) && decide (n ≤ 57)
theorem digB_yes {n : Int} (h1 : 48 ≤ n) (h2 : n ≤ 57) : digB n = true := by simp [digB, h1, h2]
theorem digB_no {n : Int} (h : n < 48 ∨ 57 < n) : digB n = false := by simp [digB]; omega

theorem isDigit_any (n : Int) (w : World) :
    Calls Tryd.prog 25 #[.int .i32 n] w fun e w' => e = .returned (.bool (digB n)) ∧ w = w' := by
  by_cases h1 : 48 ≤ n
  · by_cases h2 : n ≤ 57
    · go_enter Tryd.func25, Tryd.ntmps25
      go_wp2
      go_ret
      exact ⟨retb (digB_yes h1 h2).symm, rfl⟩
    · go_enter Tryd.func25, Tryd.ntmps25
      go_wp2
      go_ret
      exact ⟨retb (digB_no (.inr (by omega))).symm, rfl⟩
  · go_enter Tryd.func25, Tryd.ntmps25
    go_wp2
    go_ret
    exact ⟨retb (digB_no (.inl (by omega))).symm, rfl⟩

theorem isDigit_yes (n : Int) (w : World) (h1 : 48 ≤ n) (h2 : n ≤ 57) :
    Calls Tryd.prog 25 #[.int .i32 n] w fun e w' => e = .returned (.bool true) ∧ w = w' := by
  have := isDigit_any n w; rwa [digB_yes h1 h2] at this
theorem isDigit_no (n : Int) (w : World) (h : n < 48 ∨ 57 < n) :
    Calls Tryd.prog 25 #[.int .i32 n] w fun e w' => e = .returned (.bool false) ∧ w = w' := by
  have := isDigit_any n w; rwa [digB_no h] at this

theorem ne_empty (s : ByteArray) : (!s.toList.isEmpty) = decide (0 < s.size) := by
  have e : s.toList = s.data.toList := ByteArray.toList_eq s
  rw [e]
  have : s.size = s.data.toList.length := by simp
  rw [this]
  cases s.data.toList <;> simp

end Go.Proofs.YtfcocfaobglbaaaDoor.digits
