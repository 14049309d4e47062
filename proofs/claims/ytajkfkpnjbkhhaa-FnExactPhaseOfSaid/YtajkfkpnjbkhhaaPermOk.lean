/-
  Contracts of spec.l01In, spec.l02Has, spec.PermOk.
-/
import Derived.Test.YtajkfkpnjbkhhaaPm
namespace Go.Proofs.Ytajkfkpnjbkhhaa.permOk
open Go.ChangeShapes Go.WideShapes Go.ChangeAt Go.RowKit
open Go.Proofs.Ytajkfkpnjbkhhaa.mem Go.Proofs.Ytajkfkpnjbkhhaa.ints Go.Proofs.Ytajkfkpnjbkhhaa.arr Go.Proofs.Ytajkfkpnjbkhhaa.pm
set_option linter.unusedVariables false
set_option maxRecDepth 100000

theorem in_yes (x a b : Int) (w : World) (h1 : a ≤ x) (h2 : x ≤ b) :
    Calls Try.prog 40 #[.int .i64 x, .int .i64 a, .int .i64 b] w fun e w' => e = .returned (.bool true) ∧ w = w' := by
  go_enter Try.func40, Try.ntmps40
  go_wp2
  go_ret
  exact ⟨rfl, rfl⟩
theorem in_no (x a b : Int) (w : World) (h : x < a ∨ b < x) :
    Calls Try.prog 40 #[.int .i64 x, .int .i64 a, .int .i64 b] w fun e w' => e = .returned (.bool false) ∧ w = w' := by
  by_cases h1 : x < a
  · clear h
    have hd : decide (a ≤ x) = false := by simp; omega
    go_enter Try.func40, Try.ntmps40
    go_wp2
    go_ret
    exact ⟨rfl, rfl⟩
  · have h2 : b < x := by omega
    have hd : decide (x ≤ b) = false := by simp; omega
    clear h
    go_enter Try.func40, Try.ntmps40
    go_wp2
    go_ret
    exact ⟨rfl, rfl⟩

def hasB (xs : List Int) (z : Int) : Bool := decide (z ∈ xs)
theorem take_no {xs : List Int} {k : Nat} {z s : Int} (h : ¬ z ∈ xs.take k) (hk : xs[k]? = some s) (hs : ¬ s = z) : ¬ z ∈ xs.take (k + 1) := by
  rw [List.take_add_one, hk]
  simp
  exact ⟨h, fun e => hs e.symm⟩

theorem Rd.take {w : World} {hi n k : Nat} {A : Option Addr} {xs : List Int} (h : Rd w hi A n (V xs)) (hk : k ≤ n) : Rd w hi A k (V (xs.take k)) := by
  have hl : xs.length = n := by simpa [V] using h.1
  refine ⟨by simp [V]; omega, h.2.1, fun h0 => ?_⟩
  obtain ⟨g, off, e, hlt, hc⟩ := h.2.2 (by omega)
  refine ⟨g, off, e, hlt, fun j hj => ?_⟩
  rw [hc j (by omega)]
  simp [V, hj]
theorem getD_of {xs : List Int} {k : Nat} {s : Int} (h : xs[k]? = some s) : xs.getD k 0 = s := by simp [List.getD, h]

end Go.Proofs.Ytajkfkpnjbkhhaa.permOk
