/-
  What the listed package variables hold: the table of powers of ten, and the two errors of strconv; a world in which they do.
-/
import Derived.Test.YtdoohnphgembdaaDoorCards
import Derived.Test.YtdoohnphgembdaaDoorTie
import Derived.Test.YtdoohnphgembdaaDoorMem
import Derived.Deep.DeepHandedRow
import Derived.Deep.DeepWitnessRowRef
import Derived.Lib.LaidTab
import Derived.Lib.ItoaNum
import Derived.Stop.LaidErr
namespace Go.Proofs.YtdoohnphgembdaaDoor.door
open Go.ChangeShapes Go.WideShapes Go.ChangeAt Go.RowKit
set_option linter.unusedVariables false
set_option maxRecDepth 100000

theorem own : ownKnob Tryd.prog.godebug = none := by kernel_rfl
theorem laidOut : laidOutB Tryd.prog = true := by kernel_rfl
theorem gPow : Tryd.prog.globalNamed "internal/strconv.uint64pow10" = some 2 := by kernel_rfl
theorem gPowType : (Tryd.prog.globals[2]?).map (·.type) = some 93 := by kernel_rfl
theorem cellsPow : Tryd.prog.cellsOf 93 = 20 := by kernel_rfl
theorem cellsU : Tryd.prog.cellsOf 86 = 1 := by kernel_rfl
theorem star : "*" ++ "errors.errorString" = "*errors.errorString" := by decide
abbrev Pow (w : World) : Prop := Lib.TabIs Tryd.prog w "internal/strconv.uint64pow10" .u64 Lib.pow10Tab
theorem pow_of {W : World} {x y : String × DataW Unit} {rest : List (String × DataW Unit)} (h : laidMet Tryd.prog (x :: y :: ("internal/strconv.uint64pow10", Rows.laid_internal_strconv_uint64pow10) :: rest) W) : Pow W :=
  Lib.tabIs_of_head (zs := Lib.pow10Tab) (rest := rest) gPow gPowType Tryd.underlying93 Tryd.underlying86 cellsU cellsPow h.tail.tail
theorem Pow.keep {w w' : World} {B : Nat} (h : Pow w) (hb : Below B w w') (hB : 2 < B) : Pow w' := by
  unfold Pow Lib.TabIs World.var? at *
  rw [gPow] at *
  simp only [Option.bind_some] at *
  rw [hb.block _ hB]; exact h
theorem Pow.lt {w : World} (h : Pow w) : 2 < w.heap.size :=
  World.block_lt_of_cell? w _ (h.cell gPow 0 (by decide))

def numsOf : DataW Unit → Array Value
  | .agg ds => (ds.map fun | .lit (.int k n) => Value.int k n | _ => undef).toArray
  | _ => #[]
def put (h : Array Obj) (g : Nat) (cs : Array Value) : Array Obj := h.modify g fun
  | .cells _ t frozen => .cells cs t frozen
  | o => o
def tables (h : Array Obj) : Array Obj :=
  put (put (put h 3 (numsOf Rows.laid_math_bits_deBruijn32tab)) 4 (numsOf Rows.laid_math_bits_deBruijn64tab)) 2 (numsOf Rows.laid_internal_strconv_uint64pow10)
/-- A world in which the tables hold what their initialisers lay. -/
noncomputable def world3 (os : Os) : World :=
  { World.holding Tryd.prog os ⟨#[], #[], []⟩ with heap := tables (World.holding Tryd.prog os ⟨#[], #[], []⟩).heap }
abbrev synS : ByteArray := { data := #[105, 110, 118, 97, 108, 105, 100, 32, 115, 121, 110, 116, 97, 120] }
abbrev rngS : ByteArray := { data := #[118, 97, 108, 117, 101, 32, 111, 117, 116, 32, 111, 102, 32, 114, 97, 110, 103, 101] }
noncomputable def low : Nat := (World.holding Tryd.prog default ⟨#[], #[], []⟩).heap.size
end Go.Proofs.YtdoohnphgembdaaDoor.door
