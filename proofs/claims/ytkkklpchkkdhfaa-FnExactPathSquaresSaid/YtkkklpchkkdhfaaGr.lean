/-
  A gluing renamed.
-/
import Derived.Test.YtkkklpchkkdhfaaGs
namespace Go.Proofs.Ytkkklpchkkdhfaa.gl
open Go.ChangeShapes Go.WideShapes Go.ChangeAt Go.RowKit
open Go.Proofs.Ytkkklpchkkdhfaa.mem Go.Proofs.Ytkkklpchkkdhfaa.ints Go.Proofs.Ytkkklpchkkdhfaa.arr Go.Proofs.Ytkkklpchkkdhfaa.pm Go.Proofs.Ytkkklpchkkdhfaa.permOk Go.Proofs.Ytkkklpchkkdhfaa.permOf Go.Proofs.Ytkkklpchkkdhfaa.inv Go.Proofs.Ytkkklpchkkdhfaa.fns Go.Proofs.Ytkkklpchkkdhfaa.sf
set_option linter.unusedVariables false
set_option maxRecDepth 100000

/-- p among 24 elements, renamed by ns. -/
def ren24 (p ns : List Int) : List Int := thenL (thenL (invTo 24 ns 24) p) ns
theorem ren24_len (p ns : List Int) : (ren24 p ns).length = 24 := tab_len _
theorem ren24_sq {p ns : List Int} (hp : Sq p) (hn : Sq ns) : Sq (ren24 p ns) := then_sq (then_sq (inv_sq _) hp) hn
theorem ext_ok {xs : List Int} (h : Ok xs) : Ok (ext xs) := by
  have hl := h.len
  refine ⟨by rw [ext_len]; omega, fun i hi => h.sq.lo i (by rwa [ext_len] at hi), fun i hi => by rw [ext_len] at *; exact h.sq.hi i hi, fun i j hi hj e => ?_⟩
  rw [ext_len] at hi hj
  rw [ext_at hi, ext_at hj] at e
  split at e <;> split at e
  · exact h.inj i j (by assumption) (by assumption) e
  · have := h.hi i (by assumption); omega
  · have := h.hi j (by assumption); omega
  · omega
theorem ren24_ext {n : Nat} {xs ys : List Int} (h : Ok xs) (h' : Ok ys) (lx : xs.length = n) (ly : ys.length = n) : ren24 (ext xs) (ext ys) = ext (renTo n xs ys n) := by
  have hn : n ≤ 24 := by have := h.len; omega
  refine list_eq 24 (ren24_len _ _) (ext_len _) fun i hi => ?_
  rw [ext_at hi, renTo_len]
  by_cases hin : i < n
  · rw [if_pos hin]
    have e := take_ren h h' (by omega)
    rw [lx] at e
    rw [← e]
    unfold ren24
    simp [List.getD, hin]
  · rw [if_neg hin]
    have o := ext_ok h'
    have ey : (ext ys).getD i 0 = (i : Int) := by rw [ext_at hi, if_neg (by omega)]
    have ex : (ext xs).getD i 0 = (i : Int) := by rw [ext_at hi, if_neg (by omega)]
    have a := inv_at o (k := i) (by rw [ext_len]; exact hi)
    rw [ey, ext_len, Int.toNat_natCast] at a
    unfold ren24 thenL
    rw [tab_get _ hi, tab_get _ hi, a, Int.toNat_natCast, ex, Int.toNat_natCast, ey]

end Go.Proofs.Ytkkklpchkkdhfaa.gl
