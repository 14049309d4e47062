/-
  The words of the drawn slopes: balanced, of the said numbers of letters, told again. Decided by the kernel.
-/
import Derived.Test.YtkkklpchkkdhfaaUe
namespace Go.Proofs.Ytkkklpchkkdhfaa.pth
open Go.Proofs.Ytkkklpchkkdhfaa.dr
set_option linter.unusedVariables false
set_option maxRecDepth 100000

set_option maxRecDepth 100000 in
theorem sl_kernel : ∀ a : Fin 7, ∀ b : Fin 6, slB (a.val : Int) (b.val : Int) = true → (swF (a.val : Int) (b.val : Int)).size = a.val + b.val ∧ sfP (swF (a.val : Int) (b.val : Int)) = a.val ∧ sfB (swF (a.val : Int) (b.val : Int)) = true ∧ baF (swF (a.val : Int) (b.val : Int)) = true := by decide +kernel
theorem rruu : baF ⟨#[114, 114, 117, 117]⟩ = false := by decide +kernel
/-- What FnSlopes asks of a drawn slope. -/
structure Sl (a b : Nat) (s : ByteArray) : Prop where
  size : s.size = a + b
  num : cnR s s.size = a
  fb : sfB s = true
  fx : sfX s = a
  fy : sfY s = b
  bal : baF s = true
theorem sl_ok {a b : Nat} (ha : a ≤ 6) (hb : b ≤ 5) (h : slB a b = true) : Sl a b (swF a b) := by
  obtain ⟨h1, h2, h3, h4⟩ := sl_kernel ⟨a, by omega⟩ ⟨b, by omega⟩ h
  simp only at h1 h2 h3 h4
  refine ⟨h1, h2, h3, ?_, ?_, h4⟩
  · unfold sfX; rw [h3, h2]; rfl
  · unfold sfY; rw [h3, h2, h1, if_pos rfl]; omega
end Go.Proofs.Ytkkklpchkkdhfaa.pth
