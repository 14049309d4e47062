/-
  DirectionWord of the specification and of the program.
-/
import Derived.Test.YtkkklpchkkdhfaaDb
import Derived.WalkMore
namespace Go.Proofs.Ytkkklpchkkdhfaa.dr
open Go.ChangeShapes Go.WideShapes Go.ChangeAt Go.RowKit
open Go.Proofs.Ytkkklpchkkdhfaa.mem Go.Proofs.Ytkkklpchkkdhfaa.ints Go.Proofs.Ytkkklpchkkdhfaa.arr Go.Proofs.Ytkkklpchkkdhfaa.pm Go.Proofs.Ytkkklpchkkdhfaa.permOk
set_option linter.unusedVariables false
set_option maxRecDepth 100000

theorem wd_3 (L : List UInt8) : wd L ++ ⟨#[115, 84, 83]⟩ = wd (L ++ [115, 84, 83]) := by
  apply ByteArray.ext
  simp [wd]
/-- Amid the word. -/
structure Dq (a b x y f : Nat) (L : List UInt8) : Prop where
  sum : x + y ≤ f
  len : L.length + 3 * f ≤ 36
  word : L ++ dwN f x y = dwL a b
theorem Dq.start {a b : Nat} (h : a + b ≤ 12) : Dq a b a b (a + b) [] := ⟨Nat.le_refl _, by simp; omega, rfl⟩
theorem Dq.t {a b x y f : Nat} {L : List UInt8} (h : Dq a b x y f L) (hy : 0 < y) (hx : y < x) : Dq a b (x - y) y (f - 1) (L ++ [116]) := by
  have := h.sum
  refine ⟨by omega, by have := h.len; simp; omega, ?_⟩
  rw [← h.word, dwN_t (by omega) hy hx]; simp
theorem Dq.s3 {a b x y f : Nat} {L : List UInt8} (h : Dq a b x y f L) (hx : 0 < x) (hy : x ≤ y) : Dq a b x (y - x) (f - 1) (L ++ [115, 84, 83]) := by
  have := h.sum
  refine ⟨by omega, by have := h.len; simp; omega, ?_⟩
  rw [← h.word, dwN_S (by omega) hx hy]; simp
theorem Dq.fin {a b x f : Nat} {L : List UInt8} (h : Dq a b x 0 f L) : wd L = wd (dwL a b) := by rw [← h.word, dwN_0, List.append_nil]
theorem Dq.fin0 {a b y f : Nat} {L : List UInt8} (h : Dq a b 0 y f L) (hy : 0 < y) : wd L ++ ⟨#[115]⟩ = wd (dwL a b) := by
  have := h.sum
  rw [← h.word, dwN_s (by omega) hy, wd_snoc]

end Go.Proofs.Ytkkklpchkkdhfaa.dr
