/-
  Contracts of SurfaceOk, CountSquares, SameSurface, of the model and of the program.
-/
import Derived.Test.YtkkklpchkkdhfaaSf
import Derived.Test.YtkkklpchkkdhfaaTrans
import Derived.Test.YtkkklpchkkdhfaaSame
namespace Go.Proofs.Ytkkklpchkkdhfaa.sf
open Go.ChangeShapes Go.WideShapes Go.ChangeAt Go.RowKit
open Go.Proofs.Ytkkklpchkkdhfaa.mem Go.Proofs.Ytkkklpchkkdhfaa.ints Go.Proofs.Ytkkklpchkkdhfaa.arr Go.Proofs.Ytkkklpchkkdhfaa.pm Go.Proofs.Ytkkklpchkkdhfaa.fns
set_option linter.unusedVariables false
set_option maxRecDepth 100000

theorem Srd.open {w : World} {hi : Nat} {v : Value} {r u : List Int} (h : Srd w hi v r u) :
    ∃ P n c Q m d, v = .agg #[.slice P n c, .slice Q m d] ∧ r.length = n ∧ u.length = m ∧ n ≤ c ∧ m ≤ d ∧ hi ≤ w.heap.size ∧ Hid (∀ o, Rd (w.alloc o) hi P n (V r) ∧ Rd (w.alloc o) hi Q m (V u)) := by
  obtain ⟨P, n, c, Q, m, d, rfl, a, b, e1, e2⟩ := h
  exact ⟨P, n, c, Q, m, d, rfl, by simpa [V] using a.1, by simpa [V] using b.1, e1, e2, a.2.1, Lib.hid (fun o => ⟨a.keep ((Below.refl hi w).alloc a.2.1 o) (Nat.le_refl _), b.keep ((Below.refl hi w).alloc a.2.1 o) (Nat.le_refl _)⟩)⟩
theorem below1 (w : World) (o : Obj) {w' : World} (h : Below (w.alloc o).heap.size (w.alloc o) w') : Below w.heap.size w w' := ((Below.refl _ _).alloc (Nat.le_refl _) _).trans (h.mono (by simp))

set_option maxHeartbeats 400000 in
theorem ok_spec (v : Value) (r u : List Int) (hi : Nat) (w : World) (hx : Srd w hi v r u) (hn : r.length ≤ 1048576) (hm : u.length ≤ 1048576) :
    Calls Try.prog 66 #[v] w fun e w' => e = .returned (.bool (transB r u)) ∧ Below w.heap.size w w' := by
  obtain ⟨P, n, c, Q, m, d, rfl, q1, q2, e1, e2, ht, HR⟩ := hx.open
  clear hx
  go_enter Try.func66, Try.ntmps66
  go_wp2_with fail
  refine (trans_spec P n c r Q m d u _ _ _ (HR.out _).1 (HR.out _).2 (by omega) (by omega) e1 e2).mono ?_
  rintro e w1 ⟨rfl, b1⟩
  have B1 := Lib.hid (below1 _ _ b1); clear b1
  go_wp2_with fail
  go_ret
  exact ⟨rfl, B1.out⟩

set_option maxHeartbeats 400000 in
theorem ok_impl (v : Value) (r u : List Int) (hi : Nat) (w : World) (hx : Srd w hi v r u) (hn : r.length ≤ 1048576) (hm : u.length ≤ 1048576) :
    Calls Try.prog 83 #[v] w fun e w' => e = .returned (.bool (transB r u)) ∧ Below w.heap.size w w' := by
  obtain ⟨P, n, c, Q, m, d, rfl, q1, q2, e1, e2, ht, HR⟩ := hx.open
  clear hx
  go_enter Try.func83, Try.ntmps83
  go_wp2_with fail
  refine (trans_impl P n c r Q m d u _ _ _ (HR.out _).1 (HR.out _).2 (by omega) (by omega)).mono ?_
  rintro e w1 ⟨rfl, b1⟩
  have B1 := Lib.hid (below1 _ _ b1); clear b1
  go_wp2_with fail
  go_ret
  exact ⟨rfl, B1.out⟩

def cntF (r u : List Int) : Int := if transB r u then r.length else 0
def sameF (r u r' u' : List Int) : Bool := eqi r r' && eqi u u'
end Go.Proofs.Ytkkklpchkkdhfaa.sf
