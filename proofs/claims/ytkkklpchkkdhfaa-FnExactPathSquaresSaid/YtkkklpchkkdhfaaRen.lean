/-
  Contracts of RenamePerm, of the model and of the program.
-/
import Derived.Test.YtkkklpchkkdhfaaMB
import Derived.Test.YtkkklpchkkdhfaaMA
import Derived.RegionTactic
import Derived.BigRegion
namespace Go.Proofs.Ytkkklpchkkdhfaa.fns
open Go.ChangeShapes Go.WideShapes Go.ChangeAt Go.RowKit
open Go.Proofs.Ytkkklpchkkdhfaa.mem Go.Proofs.Ytkkklpchkkdhfaa.ints Go.Proofs.Ytkkklpchkkdhfaa.arr Go.Proofs.Ytkkklpchkkdhfaa.pm Go.Proofs.Ytkkklpchkkdhfaa.permOk Go.Proofs.Ytkkklpchkkdhfaa.permOf Go.Proofs.Ytkkklpchkkdhfaa.inv
set_option linter.unusedVariables false
set_option maxRecDepth 100000

theorem Made.drew {n : Nat} {w wr : World} {l : List Int} (h : Made n w wr l) : Made n w wr.drew l := ⟨h.1.drew, ⟨h.2.os, h.2.tape, h.2.output, h.2.size, h.2.block⟩⟩
/-- All below base is as it was, and 'top' blocks are there. -/
structure Kp (base top : Nat) (w w' : World) : Prop where
  below : Below base w w'
  size : top ≤ w'.heap.size
theorem range_arr {w : World} {g : Nat} {cs : List Value} {t : TypeId} (h : Arr w g cs t) : w.rangeAt g 0 cs := fun j v hv => by rw [Nat.zero_add]; exact h.cell hv
theorem Kp.start {base a b top : Nat} {w W : World} {xs ys : List Value} {t : TypeId} (h1 : Arr W a xs t) (h2 : Arr W b ys t) (hb : Below base w W) (hs : top ≤ W.heap.size) :
    W.drew.rangeAt a 0 xs ∧ W.drew.rangeAt b 0 ys ∧ Kp base top w W.drew :=
  ⟨by simpa using range_arr h1, by simpa using range_arr h2, ⟨hb.os, hb.tape, hb.output, hb.size, hb.block⟩, hs⟩
theorem Kp.later {base a b top : Nat} {w W W' : World} {xs ys : List Value} (ha : a < top) (hb : b < top) (h : W.rangeAt a 0 xs ∧ W.rangeAt b 0 ys ∧ Kp base top w W) (hB : Below W.heap.size W W') (hw : base ≤ top) :
    W'.rangeAt a 0 xs ∧ W'.rangeAt b 0 ys ∧ Kp base top w W' := by
  obtain ⟨h1, h2, h3⟩ := h
  have hs := h3.size
  refine ⟨fun j v hv => ?_, fun j v hv => ?_, h3.below.trans (hB.mono (by omega)), Nat.le_trans hs hB.size⟩
  · rw [hB.cell (p := ⟨a, 0 + j, none⟩) (show a < _ by omega)]; exact h1 j v hv
  · rw [hB.cell (p := ⟨b, 0 + j, none⟩) (show b < _ by omega)]; exact h2 j v hv

end Go.Proofs.Ytkkklpchkkdhfaa.fns
