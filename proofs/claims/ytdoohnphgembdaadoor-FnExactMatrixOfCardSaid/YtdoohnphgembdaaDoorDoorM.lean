/-
  What the program's table of letters' matrices holds, as its initialiser lays it; a world in which it does.
-/
import Derived.Test.YtdoohnphgembdaaDoorCards
import Derived.Test.YtdoohnphgembdaaDoorTie
import Derived.Test.YtdoohnphgembdaaDoorMq
import Derived.Test.YtdoohnphgembdaaDoorWd
import Derived.Deep.DeepHandedRow
import Derived.Deep.DeepWitnessRowRef
import Derived.Lib.LaidTab
namespace Go.Proofs.YtdoohnphgembdaaDoor.doorM
open Go.ChangeShapes Go.WideShapes Go.ChangeAt Go.RowKit Go.Joins Go.Deep
open Go.Proofs.YtdoohnphgembdaaDoor.mem Go.Proofs.YtdoohnphgembdaaDoor.ints Go.Proofs.YtdoohnphgembdaaDoor.arr Go.Proofs.YtdoohnphgembdaaDoor.mx Go.Proofs.YtdoohnphgembdaaDoor.pm Go.Proofs.YtdoohnphgembdaaDoor.wd
set_option linter.unusedVariables false
set_option maxRecDepth 100000
theorem own : ownKnob Tryd.prog.godebug = none := by kernel_rfl
theorem gTab : Tryd.prog.globalNamed "loop.example/g00928/impl.letterMatrices" = some 0 := by kernel_rfl
theorem gTabType : (Tryd.prog.globals[0]?).map (·.type) = some 43 := by kernel_rfl
theorem cellsA : Tryd.prog.cellsOf 43 = 16 := by kernel_rfl
theorem cellsM : Tryd.prog.cellsOf 23 = 4 := by kernel_rfl
/-- The table's sixteen numbers. -/
def tab16 : List Int := [1, 1, 0, 1, 1, -1, 0, 1, 0, -1, 1, 0, 0, 1, -1, 0]
abbrev LM (w : World) : Prop := w.var? Tryd.prog "loop.example/g00928/impl.letterMatrices" = some (V tab16).toArray
theorem cell_of_int {H : Type} {enc : TypeId × Value → H} {P : Program} {w : World} {base fuel : Nat} {sp : Nat → Bool} {held : Bool} {t : TypeId} {v : Value} {z : Int} {p : List MemPlace} (ht : P.underlying t = some (.int .i64))
    (h : DataW.trod enc P w base sp held fuel t [v] = some (.lit (.int .i64 z), p)) : v = .int .i64 z := by
  obtain ⟨a, e, h2, _⟩ := DataW.trod_int ht h
  simp at e
  subst e
  have : a = z := by simpa using (congrArg Prod.fst h2).symm
  rw [this]
theorem row_of {H : Type} {enc : TypeId × Value → H} {w : World} {base fuel : Nat} {sp : Nat → Bool} {held : Bool} {cs : List Value} {a b c d : Int} {p : List MemPlace}
    (h : DataW.trod enc Tryd.prog w base sp held fuel 23 cs = some (.agg [.lit (.int .i64 a), .lit (.int .i64 b), .lit (.int .i64 c), .lit (.int .i64 d)], p)) : cs = [.int .i64 a, .int .i64 b, .int .i64 c, .int .i64 d] := by
  obtain ⟨y0, y1, y2, y3, n, hx, hl, h0, h1, h2, h3⟩ := trod_struct4 Tryd.underlying23 h
  simp only [Prod.mk.injEq, DataW.agg.injEq, List.cons.injEq, and_true] at hx
  obtain ⟨⟨e0, e1, e2, e3⟩, _⟩ := hx
  rw [cellsM] at hl
  match cs, hl with
  | [c0, c1, c2, c3], _ =>
    obtain ⟨d0, q0⟩ := y0; obtain ⟨d1, q1⟩ := y1; obtain ⟨d2, q2⟩ := y2; obtain ⟨d3, q3⟩ := y3
    subst e0; subst e1; subst e2; subst e3
    have ce : Tryd.prog.cellsOf 3 = 1 := by kernel_rfl
    have k0 := cell_of_int Tryd.underlying3 (v := c0) (by simpa [ce] using h0)
    have k1 := cell_of_int Tryd.underlying3 (v := c1) (by simpa [ce] using h1)
    have k2 := cell_of_int Tryd.underlying3 (v := c2) (by simpa [ce] using h2)
    have k3 := cell_of_int Tryd.underlying3 (v := c3) (by simpa [ce] using h3)
    rw [k0, k1, k2, k3]
theorem tab_of {W : World} {rest : List (String × DataW Unit)} (h : laidMet Tryd.prog (("loop.example/g00928/impl.letterMatrices", Rows.laid_loop_example_g00928_impl_letterMatrices) :: rest) W) : LM W := by
  obtain ⟨ps, ⟨g', t', cs, fuel, p, q, hg', ht', hvar, hd, _, _⟩, _⟩ := h
  obtain rfl := Option.some.inj (gTab.symm.trans hg')
  obtain rfl := Option.some.inj (gTabType.symm.trans ht')
  obtain ⟨cl⟩ := cs
  obtain ⟨xs, m, _, hx, hl, hxl, hf⟩ := DataW.trod_array Tryd.underlying43 hd
  rw [cellsA] at hl
  rw [cellsM] at hf
  match xs, hxl with
  | [x0, x1, x2, x3], _ =>
    obtain ⟨d0, q0⟩ := x0; obtain ⟨d1, q1⟩ := x1; obtain ⟨d2, q2⟩ := x2; obtain ⟨d3, q3⟩ := x3
    simp only [Rows.laid_loop_example_g00928_impl_letterMatrices, Prod.mk.injEq, List.map_cons, List.map_nil, DataW.agg.injEq, List.cons.injEq, and_true] at hx
    obtain ⟨⟨e0, e1, e2, e3⟩, _⟩ := hx
    subst e0; subst e1; subst e2; subst e3
    have r0 := row_of (by simpa using hf 0 (by omega))
    have r1 := row_of (by simpa using hf 1 (by omega))
    have r2 := row_of (by simpa using hf 2 (by omega))
    have r3 := row_of (by simpa using hf 3 (by omega))
    show W.var? _ _ = _
    rw [hvar]
    match cl, hl with
    | [c0, c1, c2, c3, c4, c5, c6, c7, c8, c9, ca, cb, cc, cd, ce, cf], _ =>
      simp at r0 r1 r2 r3
      simp [V, tab16, r0, r1, r2, r3]
theorem LM.keep {w w' : World} {B : Nat} (h : LM w) (hb : Below B w w') (hB : 0 < B) : LM w' := by
  unfold LM World.var? at *
  rw [gTab] at *
  simp only [Option.bind_some] at *
  rw [hb.block _ hB]; exact h
theorem LM.cell {w : World} (h : LM w) {i : Nat} {z : Int} (hi : tab16[i]? = some z) : w.cell? ⟨0, i, none⟩ = some (.int .i64 z) := by
  have := World.var?_cell gTab h i
  rw [this]
  simp [V, hi]
theorem LM.lt {w : World} (h : LM w) : 0 < w.heap.size := World.block_lt_of_cell? w _ (h.cell (i := 0) rfl)
theorem laidOut : laidOutB Tryd.prog = true := by kernel_rfl
abbrev Pow (w : World) : Prop := LM w
theorem pow_of {W : World} {rest : List (String × DataW Unit)} (h : laidMet Tryd.prog (("loop.example/g00928/impl.letterMatrices", Rows.laid_loop_example_g00928_impl_letterMatrices) :: rest) W) : Pow W := tab_of h
def put (h : Array Obj) (g : Nat) (cs : Array Value) : Array Obj := h.modify g fun
  | .cells _ t frozen => .cells cs t frozen
  | o => o
/-- A world in which the table holds what its initialiser lays. -/
noncomputable def worldM (os : Os) : World :=
  { World.holding Tryd.prog os ⟨#[], #[], []⟩ with heap := put (World.holding Tryd.prog os ⟨#[], #[], []⟩).heap 0 (V tab16).toArray }
end Go.Proofs.YtdoohnphgembdaaDoor.doorM
