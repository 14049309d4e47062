/-
  Arrays: a block that holds a whole array; loading, storing and indexing one by value.
-/
import Derived.Test.YtkkklpchkkdhfaaInts
import Derived.Laws.Rows
import Derived.Deep.WholeRow
namespace Go.Proofs.Ytkkklpchkkdhfaa.arr
open Go.ChangeShapes Go.WideShapes Go.ChangeAt Go.RowKit
open Go.Proofs.Ytkkklpchkkdhfaa.mem Go.Proofs.Ytkkklpchkkdhfaa.ints
set_option linter.unusedVariables false
set_option maxRecDepth 100000

/-- Block g holds the cells cs, none of them frozen. -/
def Arr (w : World) (g : Nat) (cs : List Value) (t : TypeId) : Prop := w.heap[g]? = some (.cells cs.toArray t (0, 0))
theorem Arr.lt {w : World} {g : Nat} {cs : List Value} {t : TypeId} (h : Arr w g cs t) : g < w.heap.size := (Array.getElem?_eq_some_iff.1 h).1
theorem Arr.cell {w : World} {g k : Nat} {cs : List Value} {t : TypeId} {v : Value} (h : Arr w g cs t) (hk : cs[k]? = some v) : w.cell? ⟨g, k, none⟩ = some v := by
  unfold Arr at h
  simp [World.cell?, h, hk]
theorem Arr.frozen {w : World} {g : Nat} {cs : List Value} {t : TypeId} (h : Arr w g cs t) (k : Nat) : w.frozen? ⟨g, k, none⟩ = false := by
  unfold Arr at h
  simp [World.frozen?, h]
theorem Arr.set_ {w : World} {g : Nat} {cs : List Value} {t : TypeId} (h : Arr w g cs t) (k : Nat) (v : Value) : Arr (w.setCell ⟨g, k, none⟩ v) g (cs.set k v) t := by
  have := heap_setCell_same w g k cs.toArray t v h
  simpa [Arr] using this
theorem Arr.other {w : World} {g g' k : Nat} {cs : List Value} {t : TypeId} (h : Arr w g cs t) (hne : g ≠ g') (v : Value) : Arr (w.setCell ⟨g', k, none⟩ v) g cs t :=
  (heap_setCell_other w ⟨g', k, none⟩ g v hne).trans h
theorem Arr.keep {w w' : World} {g B : Nat} {cs : List Value} {t : TypeId} (h : Arr w g cs t) (hb : Below B w w') (hB : g < B) : Arr w' g cs t :=
  (hb.block g hB).trans h
theorem Arr.alloc {w : World} {g : Nat} {cs : List Value} {t : TypeId} (h : Arr w g cs t) (o : Obj) : Arr (w.alloc o) g cs t :=
  (((Below.refl w.heap.size w).alloc (Nat.le_refl _) o).block g h.lt).trans h
theorem Arr.new (w : World) (cs : List Value) (t : TypeId) {g : Nat} (hg : g = w.heap.size) : Arr (w.alloc (.cells cs.toArray t)) g cs t := by
  subst hg
  exact heap_alloc_last w _
theorem Arr.row {w : World} {g : Nat} {cs cs' : List Value} {t : TypeId} (h : Arr w g cs t) : Arr (w.setRow g cs'.toArray) g cs' t := setRow_heap w g _ _ t _ h
theorem Arr.rowOther {w : World} {g g' : Nat} {cs : List Value} {cs' : Array Value} {t : TypeId} (h : Arr w g cs t) (hne : g ≠ g') : Arr (w.setRow g' cs') g cs t := (setRow_other w g' g cs' hne).trans h
theorem Arr.drew {w : World} {g : Nat} {cs : List Value} {t : TypeId} (h : Arr w g cs t) (n : Nat) : Arr (w.drewN n) g cs t := h

theorem below_setRow {B : Nat} {w w' : World} (h : Below B w w') {g : Nat} (hg : B ≤ g) (cs : Array Value) : Below B w (w'.setRow g cs) :=
  ⟨h.os, h.tape, h.output, by simpa using h.size, fun k hk => (setRow_other w' g k cs (by omega)).trans (h.block k hk)⟩

theorem one_V (l : List Int) : (V l).toArray.all (·.oneCell') = true := by simp [V, Value.oneCell']
theorem info44 : (Try.prog.info? 62).map (·.size) = some 24 := by kernel_rfl
theorem size_V {l : List Int} (h : l.length = 24) : (Try.prog.info? 62).map (·.size) = some (V l).toArray.size := by rw [info44]; simp [V, h]
def zeros : List Int := List.replicate 24 0

theorem V_getD {l : List Int} {k : Nat} (h : k < l.length) : (V l)[k]? = some (.int .i64 (l.getD k 0)) := by
  simp [V, List.getD, h]
/-- The numbers f 0, f 1, .. up to 24. -/
def tab (f : Nat → Int) : List Int := (List.range 24).map f
theorem tab_len (f : Nat → Int) : (tab f).length = 24 := by simp [tab]
theorem tab_at (f : Nat → Int) {k : Nat} (h : k < 24) : (tab f)[k]? = some (f k) := by simp [tab, h]
theorem tab_get (f : Nat → Int) {k : Nat} (h : k < 24) : (tab f).getD k 0 = f k := by simp [tab, h]
theorem tab_set (f f' : Nat → Int) {k : Nat} (h : ∀ j, j < 24 → f' j = if j = k then f' k else f j) : (tab f).set k (f' k) = tab f' := by
  refine List.ext_getElem? fun i => ?_
  by_cases hi : i < 24
  · rw [tab_at _ hi, List.getElem?_set]
    by_cases e : k = i
    · subst e; simp [tab_len, hi]
    · rw [if_neg e, tab_at _ hi, h i hi, if_neg (by omega)]
  · rw [List.getElem?_eq_none (by simp [tab_len]; omega), List.getElem?_eq_none (by simp [tab_len]; omega)]
theorem tab_zeros : tab (fun _ => 0) = zeros := by decide
def Stay (w wr : World) (k : Nat) : Prop := Arr wr w.heap.size (V zeros) 62 ∧ Arr wr (w.heap.size + 1) (V (tab fun i => if i < k then (i : Int) else 0)) 62 ∧ Below w.heap.size w wr
def idl : List Int := tab fun i => (i : Int)

set_option maxHeartbeats 400000 in
theorem staying_any (w : World) :
    Calls Try.prog 85 #[] w fun e w' => e = .returned (.agg (V idl).toArray) ∧ Below w.heap.size w w' := by
  go_enter Try.func85, Try.ntmps85
  go_wp2
  go_loopw [3] (fun i wr => ∃ k : Nat, k ≤ 24 ∧ i = .int .i64 k ∧ Stay w wr k) (fun i _ => 24 - (intOf i).toNat)
  case atStart =>
    exact ⟨0, Nat.zero_le _, rfl, (Arr.new w (V zeros) _ rfl).alloc _, Arr.new _ (V zeros) _ (by simp), ((Below.refl _ _).alloc (Nat.le_refl _) _).alloc (by simp) _⟩
  case round =>
    obtain ⟨k, hk, rfl, hst⟩ := hrel
    have HS := Lib.hid hst; clear hst
    by_cases hlt : k < 24
    · have hc := HS.out.2.1.cell (V_getD (k := k) (by rw [tab_len]; exact hlt))
      have hf := HS.out.2.1.frozen k
      go_wp2
      go_roundw
      case rel =>
        refine ⟨k + 1, by omega, by go_num, HS.out.1.other (by omega) _, ?_, HS.out.2.2.setCell (by simp) _⟩
        have h := HS.out.2.1.set_ k (.int .i64 (k : Int))
        rw [V_set] at h
        have e := tab_set (fun i => if i < k then (i : Int) else 0) (fun i => if i < k + 1 then (i : Int) else 0) (k := k) (fun j hj => by
          by_cases e : j = k
          · subst e; simp
          · simp [e]; split <;> split <;> omega)
        simp only [Nat.lt_succ_self, if_true] at e
        rw [e] at h
        exact h
      case measure => simp [intOf]; omega
    · obtain rfl : k = 24 := by omega
      have e : tab (fun i => if i < 24 then (i : Int) else 0) = idl := by decide
      have h2 := HS.out.2.1; rw [e] at h2
      have H2 := Lib.hid h2; clear h2 e
      go_wp2_with (first | (refine wpList_load_row rfl 62 _ rfl (w.heap.size + 1) rfl 62 (V idl).toArray (0, 0) _ H2.out Try.underlying62 rfl (size_V (tab_len _)) ?_) | (refine wpList_store_row rfl 62 _ _ rfl w.heap.size (V idl).toArray rfl rfl 62 (V zeros).toArray HS.out.1 (size_V (tab_len _)) (by simp [V_len, idl, tab_len, zeros]) (one_V _) ?_))
      exact bodyPost_ret (v := .agg (V idl).toArray) (results_cell_row rfl _ _ w.heap.size 62 (V idl).toArray (0, 0) _ rfl HS.out.1.row Try.underlying62 rfl (size_V (tab_len _))) rfl ⟨rfl, below_setRow HS.out.2.2 (Nat.le_refl _) _⟩
end Go.Proofs.Ytkkklpchkkdhfaa.arr
