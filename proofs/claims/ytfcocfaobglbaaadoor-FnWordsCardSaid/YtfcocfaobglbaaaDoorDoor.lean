/-
  What the listed package variables hold: the table of powers of ten, and the two errors of strconv; a world in which they do.
-/
import Derived.Test.YtfcocfaobglbaaaDoorCards
import Derived.Test.YtfcocfaobglbaaaDoorTie
import Derived.Test.YtfcocfaobglbaaaDoorMem
import Derived.Deep.DeepHandedRow
import Derived.Deep.DeepWitnessRowRef
import Derived.Lib.LaidTab
import Derived.Lib.ItoaNum
import Derived.Stop.LaidErr
namespace Go.Proofs.YtfcocfaobglbaaaDoor.door
open Go.ChangeShapes Go.WideShapes Go.ChangeAt Go.RowKit
set_option linter.unusedVariables false

theorem own : ownKnob Tryd.prog.godebug = none := by kernel_rfl
theorem laidOut : laidOutB Tryd.prog = true := by kernel_rfl
theorem gPow : Tryd.prog.globalNamed "internal/strconv.uint64pow10" = some 2 := by kernel_rfl
theorem gPowType : (Tryd.prog.globals[2]?).map (·.type) = some 83 := by kernel_rfl
theorem cellsPow : Tryd.prog.cellsOf 83 = 20 := by kernel_rfl
theorem cellsU : Tryd.prog.cellsOf 64 = 1 := by kernel_rfl
theorem gRange : Tryd.prog.globalNamed "strconv.ErrRange" = some 1 := by kernel_rfl
theorem gSyn : Tryd.prog.globalNamed "strconv.ErrSyntax" = some 0 := by kernel_rfl
theorem star : "*" ++ "errors.errorString" = "*errors.errorString" := by decide
theorem rowErr (u : TypeId) (h : Tryd.prog.typeName? 3 u = some "*errors.errorString") : u = 78 :=
  typeName_ptr_named (nm := "errors.errorString") (by rw [star]; kernel_rfl) (by kernel_rfl) (by decide) u (by rw [star]; exact h)

abbrev Pow (w : World) : Prop := Lib.TabIs Tryd.prog w "internal/strconv.uint64pow10" .u64 Lib.pow10Tab
/-- The two errors are there. -/
def Errs (w : World) : Prop := (∃ tp p, w.cell? ⟨0, 0, none⟩ = some (.iface tp p)) ∧ ∃ tp p, w.cell? ⟨1, 0, none⟩ = some (.iface tp p)

theorem pow_of {W : World} {x y : String × DataW Unit} {rest : List (String × DataW Unit)} (h : laidMet Tryd.prog (x :: y :: ("internal/strconv.uint64pow10", Rows.laid_internal_strconv_uint64pow10) :: rest) W) : Pow W :=
  Lib.tabIs_of_head (zs := Lib.pow10Tab) (rest := rest) gPow gPowType Tryd.underlying83 Tryd.underlying64 cellsU cellsPow h.tail.tail
theorem errs_of {W : World} {x y z : String × DataW Unit} (h : laidMet Tryd.prog [x, y, z, ("strconv.ErrRange", Rows.laid_strconv_ErrRange), ("strconv.ErrSyntax", Rows.laid_strconv_ErrSyntax)] W) : Errs W := by
  have h3 := h.tail.tail.tail
  obtain ⟨a1, s1, hv1, -, -, -⟩ := laid_sentinel h3 gRange (by kernel_rfl) Tryd.underlying39 rowErr Tryd.underlying78 Tryd.underlying80 rfl rfl Tryd.underlying9 (by kernel_rfl) (by kernel_rfl)
  obtain ⟨a0, s0, hv0, -, -, -⟩ := laid_sentinel h3.tail gSyn (by kernel_rfl) Tryd.underlying39 rowErr Tryd.underlying78 Tryd.underlying80 rfl rfl Tryd.underlying9 (by kernel_rfl) (by kernel_rfl)
  exact ⟨⟨_, _, by have h0 := World.var?_cell gSyn hv0 0; simpa using h0⟩, ⟨_, _, by have h0 := World.var?_cell gRange hv1 0; simpa using h0⟩⟩

theorem Pow.keep {w w' : World} {B : Nat} (h : Pow w) (hb : Below B w w') (hB : 2 < B) : Pow w' := by
  unfold Pow Lib.TabIs World.var? at *
  rw [gPow] at *
  simp only [Option.bind_some] at *
  rw [hb.block _ hB]; exact h
theorem Errs.keep {w w' : World} {B : Nat} (h : Errs w) (hb : Below B w w') (h1 : 0 < B) (h2 : 1 < B) : Errs w' := by
  obtain ⟨⟨t, p, h⟩, ⟨t', p', h'⟩⟩ := h
  exact ⟨⟨t, p, by rw [hb.cell (p := ⟨_, 0, none⟩) h1]; exact h⟩, ⟨t', p', by rw [hb.cell (p := ⟨_, 0, none⟩) h2]; exact h'⟩⟩
theorem Pow.lt {w : World} (h : Pow w) : 2 < w.heap.size :=
  World.block_lt_of_cell? w _ (h.cell gPow 0 (by decide))

def numsOf : DataW Unit → Array Value
  | .agg ds => (ds.map fun | .lit (.int k n) => Value.int k n | _ => undef).toArray
  | _ => #[]
def put (h : Array Obj) (g : Nat) (cs : Array Value) : Array Obj := h.modify g fun
  | .cells _ t frozen => .cells cs t frozen
  | o => o
def tables (h : Array Obj) : Array Obj :=
  put (put (put h 4 (numsOf Rows.laid_math_bits_deBruijn32tab)) 5 (numsOf Rows.laid_math_bits_deBruijn64tab)) 2 (numsOf Rows.laid_internal_strconv_uint64pow10)
/-- A world in which the tables hold what their initialisers lay. -/
noncomputable def world3 (os : Os) : World :=
  { World.holding Tryd.prog os ⟨#[], #[], []⟩ with heap := tables (World.holding Tryd.prog os ⟨#[], #[], []⟩).heap }
abbrev synS : ByteArray := { data := #[105, 110, 118, 97, 108, 105, 100, 32, 115, 121, 110, 116, 97, 120] }
abbrev rngS : ByteArray := { data := #[118, 97, 108, 117, 101, 32, 111, 117, 116, 32, 111, 102, 32, 114, 97, 110, 103, 101] }
noncomputable def low : Nat := (World.holding Tryd.prog default ⟨#[], #[], []⟩).heap.size
/-- The same with the two errors. -/
noncomputable def world5 (os : Os) : World :=
  let w0 := World.holding Tryd.prog os ⟨#[.cells #[.string synS] 80, .cells #[.string rngS] 80], #[], []⟩
  { w0 with heap := put (put (tables w0.heap) 0 #[.iface 78 (.pointer (some ⟨low, 0, none⟩))]) 1 #[.iface 78 (.pointer (some ⟨low + 1, 0, none⟩))] }

end Go.Proofs.YtfcocfaobglbaaaDoor.door
