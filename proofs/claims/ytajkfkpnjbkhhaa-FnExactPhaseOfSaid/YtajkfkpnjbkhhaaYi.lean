/-
  The program's balls: sides behind an interface, and how each turns a ball.
-/
import Derived.Test.YtajkfkpnjbkhhaaYd
import Derived.Test.YtajkfkpnjbkhhaaYh
namespace Go.Proofs.Ytajkfkpnjbkhhaa.bal
open Go.ChangeShapes Go.WideShapes Go.ChangeAt Go.RowKit
open Go.Proofs.Ytajkfkpnjbkhhaa.mem Go.Proofs.Ytajkfkpnjbkhhaa.ints Go.Proofs.Ytajkfkpnjbkhhaa.arr Go.Proofs.Ytajkfkpnjbkhhaa.pm Go.Proofs.Ytajkfkpnjbkhhaa.permOk Go.Proofs.Ytajkfkpnjbkhhaa.sf
set_option linter.unusedVariables false
set_option maxRecDepth 100000
set_option linter.unusedSimpArgs false

def inF (x a : Int) : Int := if x = 0 then 1 else if x = a then -1 else 0
theorem inw_impl (x a : Int) (w : World) : Calls Try.prog 44 #[.int .i64 x, .int .i64 a] w fun e w' => e = .returned (.int .i64 (inF x a)) ∧ w = w' := by
  by_cases h1 : x = 0
  · subst h1
    have HB : Hid (inF 0 a = 1) := Lib.hid (by simp [inF])
    go_enter Try.func44, Try.ntmps44
    go_wp2
    go_ret
    exact ⟨by rw [HB.out]; rfl, rfl⟩
  · have h1' : (x == 0) = false := by simp [h1]
    by_cases h2 : x = a
    · subst h2
      have HB : Hid (inF x x = -1) := Lib.hid (by simp [inF, h1])
      go_enter Try.func44, Try.ntmps44
      go_wp2
      go_ret
      exact ⟨by rw [HB.out]; rfl, rfl⟩
    · have h2' : (x == a) = false := by simp [h2]
      have HB : Hid (inF x a = 0) := Lib.hid (by simp [inF, h1, h2])
      go_enter Try.func44, Try.ntmps44
      go_wp2
      go_ret
      exact ⟨by rw [HB.out]; rfl, rfl⟩
def tlB (n : Int) : Bool := decide (1 ≤ n ∧ n ≤ 50)
theorem tl_impl (n : Int) (w : World) : Calls Try.prog 34 #[.int .i64 n] w fun e w' => e = .returned (.bool (tlB n)) ∧ w = w' := by
  by_cases h1 : 1 ≤ n
  · by_cases h2 : n ≤ 50
    · have HB : Hid (tlB n = true) := Lib.hid (by simp [tlB, h1, h2])
      go_enter Try.func34, Try.ntmps34
      go_wp2
      go_ret
      exact ⟨by rw [HB.out]; rfl, rfl⟩
    · have HB : Hid (tlB n = false) := Lib.hid (by simp [tlB, h1, h2])
      go_enter Try.func34, Try.ntmps34
      go_wp2
      go_ret
      exact ⟨by rw [HB.out]; rfl, rfl⟩
  · have HB : Hid (tlB n = false) := Lib.hid (by simp [tlB, h1])
    go_enter Try.func34, Try.ntmps34
    go_wp2
    go_ret
    exact ⟨by rw [HB.out]; rfl, rfl⟩
set_option maxHeartbeats 2000000 in
theorem up_impl (u : Int) (x : Bal) (w : World) : Calls Try.prog 60 #[.int .i64 u, bv x] w fun e w' => e = .returned (bv (x.1, x.2.1, u, x.2.2.2)) ∧ Below w.heap.size w w' := by
  obtain ⟨x1, y1, p, q⟩ := x
  unfold bv
  go_enter Try.func60, Try.ntmps60
  go_wp2
  exact bodyPost_ret (v := bv (x1, y1, u, q)) (results_cell_row rfl _ _ (w.heap.size + 1) 24 #[.int .i64 x1, .int .i64 y1, .int .i64 u, .int .i64 q] (0, 0) _ rfl (Arr.new _ (V (be (x1, y1, u, q))) 24 (by simp)) Try.underlying24 rfl (sizeB (x1, y1, u, q))) rfl ⟨rfl, ((Below.refl _ _).alloc (Nat.le_refl _) _).alloc (by simp) _⟩
set_option maxHeartbeats 2000000 in
theorem lv_impl (u : Int) (x : Bal) (w : World) : Calls Try.prog 61 #[.int .i64 u, bv x] w fun e w' => e = .returned (bv (x.1, x.2.1, x.2.2.1, u)) ∧ Below w.heap.size w w' := by
  obtain ⟨x1, y1, p, q⟩ := x
  unfold bv
  go_enter Try.func61, Try.ntmps61
  go_wp2
  exact bodyPost_ret (v := bv (x1, y1, p, u)) (results_cell_row rfl _ _ (w.heap.size + 1) 24 #[.int .i64 x1, .int .i64 y1, .int .i64 p, .int .i64 u] (0, 0) _ rfl (Arr.new _ (V (be (x1, y1, p, u))) 24 (by simp)) Try.underlying24 rfl (sizeB (x1, y1, p, u))) rfl ⟨rfl, ((Below.refl _ _).alloc (Nat.le_refl _) _).alloc (by simp) _⟩
set_option maxHeartbeats 2000000 in
theorem no_impl (x : Bal) (w : World) : Calls Try.prog 63 #[.agg #[], bv x] w fun e w' => e = .returned (bv x) ∧ Below w.heap.size w w' := by
  obtain ⟨x1, y1, p, q⟩ := x
  unfold bv
  go_enter Try.func63, Try.ntmps63
  go_wp2
  exact bodyPost_ret (v := bv (x1, y1, p, q)) (results_cell_row rfl _ _ (w.heap.size + 2) 24 #[.int .i64 x1, .int .i64 y1, .int .i64 p, .int .i64 q] (0, 0) _ rfl (Arr.new _ (V (be (x1, y1, p, q))) 24 (by simp)) Try.underlying24 rfl (sizeB (x1, y1, p, q))) rfl ⟨rfl, (((Below.refl _ _).alloc (Nat.le_refl _) _).alloc (by simp) _).alloc (by simp; omega) _⟩
end Go.Proofs.Ytajkfkpnjbkhhaa.bal
