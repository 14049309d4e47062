/-
  Slices of strings as lists of cells; worlds that differ by draws alone.
-/
import Derived.Test.YtdoohnphgembdaaDoorMem
import Derived.Outline
import Derived.Laws.Concat
import Derived.Deep.AppendLies
import Derived.Deep.RegionHeld3
namespace Go.Proofs.YtdoohnphgembdaaDoor.strs
open Go.ChangeShapes Go.WideShapes Go.ChangeAt Go.RowKit
open Go.Proofs.YtdoohnphgembdaaDoor.mem
set_option linter.unusedVariables false
set_option maxRecDepth 100000

def S (l : List ByteArray) : List Value := l.map Value.string
theorem S_at {l : List ByteArray} {k : Nat} {u : Value} (h : (S l)[k]? = some u) : ∃ s, l[k]? = some s ∧ u = .string s := by
  simp only [S, List.getElem?_map, Option.map_eq_some_iff] at h
  obtain ⟨s, h1, h2⟩ := h
  exact ⟨s, h1, h2.symm⟩

def Drawn (w w' : World) : Prop := ∃ m, w' = w.drewN m
theorem Drawn.cell {w w' : World} (h : Drawn w w') (p : Addr) : w'.cell? p = w.cell? p := by obtain ⟨m, rfl⟩ := h; rfl
theorem Drawn.frozen {w w' : World} (h : Drawn w w') (p : Addr) : w'.frozen? p = w.frozen? p := by obtain ⟨m, rfl⟩ := h; rfl
theorem Drawn.more {w w' : World} (h : Drawn w w') (n : Nat) : Drawn w (w'.drewN n) := by obtain ⟨m, rfl⟩ := h; exact ⟨m + n, by simp⟩
theorem Drawn.below {w w' : World} (h : Drawn w w') (B : Nat) : Below B w w' := by obtain ⟨m, rfl⟩ := h; exact below_drewN (Below.refl _ _) _
theorem infoS : (Tryd.prog.info? 9).map (fun i => (i.zero, i.size, i.bytes)) = some (some (.string ⟨#[]⟩), 1, 16) := by kernel_rfl
def sm (l : List ByteArray) : Nat := (l.map (·.size)).sum
theorem sm_take {l : List ByteArray} {k : Nat} {s : ByteArray} (h : l[k]? = some s) : sm (l.take (k + 1)) = sm (l.take k) + s.size := by
  rw [List.take_add_one, h]; simp [sm]
theorem sm_le (l : List ByteArray) (k : Nat) : sm (l.take k) ≤ sm l := by
  have h : sm l = sm (l.take k) + sm (l.drop k) := by
    conv => lhs; rw [← List.take_append_drop k l]
    simp only [sm, List.map_append, List.sum_append]
  omega

end Go.Proofs.YtdoohnphgembdaaDoor.strs
