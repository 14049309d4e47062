/-
  Arrays: a block that holds a whole array; loading, storing and indexing one by value.
-/
import Derived.Test.YtajkfkpnjbkhhaaInts
import Derived.Laws.Rows
import Derived.Deep.WholeRow
namespace Go.Proofs.Ytajkfkpnjbkhhaa.arr
open Go.ChangeShapes Go.WideShapes Go.ChangeAt Go.RowKit
open Go.Proofs.Ytajkfkpnjbkhhaa.mem Go.Proofs.Ytajkfkpnjbkhhaa.ints
set_option linter.unusedVariables false
set_option maxRecDepth 100000

/-- Block g holds the cells cs, none of them frozen. -/
def Arr (w : World) (g : Nat) (cs : List Value) (t : TypeId) : Prop := w.heap[g]? = some (.cells cs.toArray t (0, 0))
theorem Arr.lt {w : World} {g : Nat} {cs : List Value} {t : TypeId} (h : Arr w g cs t) : g < w.heap.size := (Array.getElem?_eq_some_iff.1 h).1
theorem Arr.cell {w : World} {g k : Nat} {cs : List Value} {t : TypeId} {v : Value} (h : Arr w g cs t) (hk : cs[k]? = some v) : w.cell? ⟨g, k, none⟩ = some v := by
  unfold Arr at h
  simp [World.cell?, h, hk]
theorem Arr.frozen {w : World} {g : Nat} {cs : List Value} {t : TypeId} (h : Arr w g cs t) (k : Nat) : w.frozen? ⟨g, k, none⟩ = false := by
  unfold Arr at h
  simp [World.frozen?, h]
theorem Arr.set_ {w : World} {g : Nat} {cs : List Value} {t : TypeId} (h : Arr w g cs t) (k : Nat) (v : Value) : Arr (w.setCell ⟨g, k, none⟩ v) g (cs.set k v) t := by
  have := heap_setCell_same w g k cs.toArray t v h
  simpa [Arr] using this
theorem Arr.other {w : World} {g g' k : Nat} {cs : List Value} {t : TypeId} (h : Arr w g cs t) (hne : g ≠ g') (v : Value) : Arr (w.setCell ⟨g', k, none⟩ v) g cs t :=
  (heap_setCell_other w ⟨g', k, none⟩ g v hne).trans h
theorem Arr.keep {w w' : World} {g B : Nat} {cs : List Value} {t : TypeId} (h : Arr w g cs t) (hb : Below B w w') (hB : g < B) : Arr w' g cs t :=
  (hb.block g hB).trans h
theorem Arr.alloc {w : World} {g : Nat} {cs : List Value} {t : TypeId} (h : Arr w g cs t) (o : Obj) : Arr (w.alloc o) g cs t :=
  (((Below.refl w.heap.size w).alloc (Nat.le_refl _) o).block g h.lt).trans h
theorem Arr.new (w : World) (cs : List Value) (t : TypeId) {g : Nat} (hg : g = w.heap.size) : Arr (w.alloc (.cells cs.toArray t)) g cs t := by
  subst hg
  exact heap_alloc_last w _
theorem Arr.row {w : World} {g : Nat} {cs cs' : List Value} {t : TypeId} (h : Arr w g cs t) : Arr (w.setRow g cs'.toArray) g cs' t := setRow_heap w g _ _ t _ h
theorem Arr.rowOther {w : World} {g g' : Nat} {cs : List Value} {cs' : Array Value} {t : TypeId} (h : Arr w g cs t) (hne : g ≠ g') : Arr (w.setRow g' cs') g cs t := (setRow_other w g' g cs' hne).trans h
theorem Arr.drew {w : World} {g : Nat} {cs : List Value} {t : TypeId} (h : Arr w g cs t) (n : Nat) : Arr (w.drewN n) g cs t := h

theorem below_setRow {B : Nat} {w w' : World} (h : Below B w w') {g : Nat} (hg : B ≤ g) (cs : Array Value) : Below B w (w'.setRow g cs) :=
  ⟨h.os, h.tape, h.output, by simpa using h.size, fun k hk => (setRow_other w' g k cs (by omega)).trans (h.block k hk)⟩

theorem one_V (l : List Int) : (V l).toArray.all (·.oneCell') = true := by simp [V, Value.oneCell']
def zeros : List Int := List.replicate 24 0

theorem V_getD {l : List Int} {k : Nat} (h : k < l.length) : (V l)[k]? = some (.int .i64 (l.getD k 0)) := by
  simp [V, List.getD, h]
/-- The numbers f 0, f 1, .. up to 24. -/
def tab (f : Nat → Int) : List Int := (List.range 24).map f
theorem tab_len (f : Nat → Int) : (tab f).length = 24 := by simp [tab]
theorem tab_at (f : Nat → Int) {k : Nat} (h : k < 24) : (tab f)[k]? = some (f k) := by simp [tab, h]
theorem tab_get (f : Nat → Int) {k : Nat} (h : k < 24) : (tab f).getD k 0 = f k := by simp [tab, h]
theorem tab_set (f f' : Nat → Int) {k : Nat} (h : ∀ j, j < 24 → f' j = if j = k then f' k else f j) : (tab f).set k (f' k) = tab f' := by
  refine List.ext_getElem? fun i => ?_
  by_cases hi : i < 24
  · rw [tab_at _ hi, List.getElem?_set]
    by_cases e : k = i
    · subst e; simp [tab_len, hi]
    · rw [if_neg e, tab_at _ hi, h i hi, if_neg (by omega)]
  · rw [List.getElem?_eq_none (by simp [tab_len]; omega), List.getElem?_eq_none (by simp [tab_len]; omega)]
theorem tab_zeros : tab (fun _ => 0) = zeros := by decide
def idl : List Int := tab fun i => (i : Int)

end Go.Proofs.Ytajkfkpnjbkhhaa.arr
