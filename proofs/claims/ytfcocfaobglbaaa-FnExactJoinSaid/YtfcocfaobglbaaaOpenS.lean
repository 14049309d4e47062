/-
  A slice of strings that came in: what its reading says of its cells.
-/
import Derived.Test.YtfcocfaobglbaaaStrs
import Derived.SliceStrings
namespace Go.Proofs.Ytfcocfaobglbaaa.strs
open Go.ChangeShapes Go.WideShapes Go.ChangeAt Go.RowKit
open Go.Proofs.Ytfcocfaobglbaaa.mem
theorem open_S {H : Type} {enc : TypeId × Value → H} {P : Program} {W : World} {t e : TypeId} {A : Option Addr} {n c : Nat} {d : DataW H} {ps : List MemPlace}
    (ht : P.underlying t = some (.slice e)) (he : P.underlying e = some .string) (hc : P.cellsOf e = 1) (h : DataW.Trod enc P W 0 (fun _ => true) true t (.slice A n c) d ps) :
    ∃ xs : List ByteArray, Rd W W.heap.size A n (S xs) ∧ n ≤ c ∧ c ≤ maxLen ∧ ∀ s ∈ xs, s.size ≤ maxLen := by
  obtain ⟨fuel, hf⟩ := h
  rcases open_strings ht he hc hf with ⟨hcs, _⟩ | ⟨x, l, cap, ss, hcs, _, hl, hm, hz, _, hcell, hwz⟩
  · simp [Value.cells] at hcs
    obtain ⟨rfl, rfl, rfl⟩ := hcs
    exact ⟨[], ⟨rfl, Nat.le_refl _, fun h => absurd h (by omega)⟩, Nat.le_refl _, by simp, by simp⟩
  · simp [Value.cells] at hcs
    obtain ⟨rfl, rfl, rfl⟩ := hcs
    have hz' : ss.length = c := by simpa using hz
    refine ⟨ss.take n, Rd.of_cells (by simp [S]; omega) (fun i hi => ?_), hl, hm, fun s hs => hwz s (List.mem_of_mem_take hs)⟩
    rw [hcell i (by omega)]
    simp [S, hi, List.getD, List.getElem?_eq_getElem (show i < ss.length by omega)]
end Go.Proofs.Ytfcocfaobglbaaa.strs
