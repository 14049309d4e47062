/-
  A matrix: a struct of four ints by value, as it comes in; TimesMatrix and DeterminantOf, of the model and of the program.
-/
import Derived.Test.YtajkfkpnjbkhhaaPermOf
import Derived.Lib.SmallJoins
namespace Go.Proofs.Ytajkfkpnjbkhhaa.mx
open Go.ChangeShapes Go.WideShapes Go.ChangeAt Go.RowKit Go.Joins Go.Deep
open Go.Proofs.Ytajkfkpnjbkhhaa.mem Go.Proofs.Ytajkfkpnjbkhhaa.ints Go.Proofs.Ytajkfkpnjbkhhaa.arr
set_option linter.unusedVariables false
set_option maxRecDepth 100000
/-- The four entries, row by row. -/
abbrev Mx := Int × Int × Int × Int
def mv (m : Mx) : Value := .agg #[.int .i64 m.1, .int .i64 m.2.1, .int .i64 m.2.2.1, .int .i64 m.2.2.2]
def i64 (n : Int) : Prop := -9223372036854775808 ≤ n ∧ n ≤ 9223372036854775807
def Fit (m : Mx) : Prop := i64 m.1 ∧ i64 m.2.1 ∧ i64 m.2.2.1 ∧ i64 m.2.2.2
theorem fit1 {a : Int} (h : (Lit.int .i64 a).wf = true) : i64 a := by simpa [i64, Lit.wf, IntKind.min, IntKind.max, IntKind.signed, IntKind.bits] using h
theorem open_M {H : Type} {enc : TypeId × Value → H} {P : Program} {W : World} {r : Reach} {b0 : Nat} {t : TypeId} {f0 f1 f2 f3 : Field} {v : Value} {d : DataW H} {p : List MemPlace} (hs : P.underlying t = some (.struct #[f0, f1, f2, f3])) (hone : oneCellFields P #[f0, f1, f2, f3] = true) (hC : P.cellsOf t = 4)
    (t0 : P.underlying f0.type = some (.int .i64)) (t1 : P.underlying f1.type = some (.int .i64)) (t2 : P.underlying f2.type = some (.int .i64)) (t3 : P.underlying f3.type = some (.int .i64))
    (hv : Value.okWide P W r b0 t v) (h : DataW.Trod enc P W 0 (fun _ => true) true t v d p) : ∃ m : Mx, v = mv m ∧ Fit m := by
  obtain ⟨v0, v1, v2, v3, y0, y1, y2, y3, n, rfl, _, _, h0, h1, h2, h3⟩ := open_agg4 hs hone hC hv h
  obtain ⟨a, e0, _, wa⟩ := DataW.trod_int t0 h0
  obtain ⟨b, e1, _, wb⟩ := DataW.trod_int t1 h1
  obtain ⟨c, e2, _, wc⟩ := DataW.trod_int t2 h2
  obtain ⟨e, e3, _, we⟩ := DataW.trod_int t3 h3
  simp at e0 e1 e2 e3
  subst e0 e1 e2 e3
  exact ⟨(a, b, c, e), rfl, fit1 wa, fit1 wb, fit1 wc, fit1 we⟩
def sm1 (x : Int) : Bool := decide (-1000000000 ≤ x) && decide (x ≤ 1000000000)
def ents (m : Mx) : List Int := [m.1, m.2.1, m.2.2.1, m.2.2.2]
/-- All four entries lie from -MaxEntry to MaxEntry. -/
def smallM (m : Mx) : Bool := (ents m).all sm1
theorem sm_yes {x : Int} (h1 : -1000000000 ≤ x) (h2 : x ≤ 1000000000) : sm1 x = true := by simp [sm1, h1, h2]
theorem sm_no {x : Int} (h : x < -1000000000 ∨ 1000000000 < x) : sm1 x = false := by unfold sm1; rcases h with h | h <;> simp <;> omega
theorem ents_at (m : Mx) {k : Nat} (h : k < 4) : (ents m)[k]? = some ((ents m).getD k 0) := by
  rw [List.getD, List.getElem?_eq_getElem (by simpa [ents] using h)]; rfl
theorem all_snoc {l : List Int} {k : Nat} {x : Int} (h : (l.take k).all sm1 = true) (hx : l[k]? = some x) (hs : sm1 x = true) : (l.take (k + 1)).all sm1 = true := by
  rw [List.take_add_one, hx]
  simp [h, hs]
theorem small_no {m : Mx} {k : Nat} {x : Int} (hx : (ents m)[k]? = some x) (hs : sm1 x = false) : smallM m = false := by
  unfold smallM
  rw [List.all_eq_false]
  exact ⟨x, List.mem_of_getElem? hx, by rw [hs]; decide⟩
theorem small_yes {m : Mx} (h : ((ents m).take 4).all sm1 = true) : smallM m = true := h
theorem ents_fit {m : Mx} (h : Fit m) {k : Nat} (hk : k < 4) : i64 ((ents m).getD k 0) := by
  obtain ⟨a, b, c, d⟩ := h
  match k, hk with
  | 0, _ => exact a
  | 1, _ => exact b
  | 2, _ => exact c
  | 3, _ => exact d
theorem ret_bool {a b : Bool} (h : a = b) : Ending.returned (.bool a) = .returned (.bool b) := by rw [h]
/-- A sum of two products, as 64 bits hold it. -/
def w64 (x y : Int) : Int := wrap64 (wrap64 x + wrap64 y)
def mulW (m k : Mx) : Mx := (w64 (m.1 * k.1) (m.2.1 * k.2.2.1), w64 (m.1 * k.2.1) (m.2.1 * k.2.2.2), w64 (m.2.2.1 * k.1) (m.2.2.2 * k.2.2.1), w64 (m.2.2.1 * k.2.1) (m.2.2.2 * k.2.2.2))
def okM (m k : Mx) : Bool := smallM m && smallM k
/-- What TimesMatrix gives. -/
def tmF (m k : Mx) : Mx := if okM m k then mulW m k else (0, 0, 0, 0)
def detF (m : Mx) : Int := if smallM m then wrap64 (wrap64 (m.1 * m.2.2.2) - wrap64 (m.2.1 * m.2.2.1)) else 0
theorem okM_yes {m k : Mx} (h : smallM m = true) (h' : smallM k = true) : okM m k = true := by simp [okM, h, h']
theorem okM_no {m k : Mx} (h : smallM m = false ∨ smallM k = false) : okM m k = false := by rcases h with h | h <;> simp [okM, h]
theorem tm_yes {m k : Mx} (h : okM m k = true) : tmF m k = mulW m k := by simp [tmF, h]
theorem tm_no {m k : Mx} (h : okM m k = false) : tmF m k = (0, 0, 0, 0) := by simp [tmF, h]
theorem det_yes {m : Mx} (h : smallM m = true) : detF m = wrap64 (wrap64 (m.1 * m.2.2.2) - wrap64 (m.2.1 * m.2.2.1)) := by simp [detF, h]
theorem det_no {m : Mx} (h : smallM m = false) : detF m = 0 := by simp [detF, h]
def zM : Mx := (0, 0, 0, 0)
def TPost (m k : Mx) (w : World) (e : Ending) (w' : World) : Prop := e = .returned (.tuple #[mv (tmF m k), .bool (okM m k)]) ∧ Below w.heap.size w w'
theorem tm_post {m k v : Mx} {b : Bool} {w w' : World} (h : tmF m k = v) (h' : okM m k = b) (hb : Below w.heap.size w w') : TPost m k w (.returned (.tuple #[mv v, .bool b])) w' := by
  subst h; subst h'; exact ⟨rfl, hb⟩
end Go.Proofs.Ytajkfkpnjbkhhaa.mx
