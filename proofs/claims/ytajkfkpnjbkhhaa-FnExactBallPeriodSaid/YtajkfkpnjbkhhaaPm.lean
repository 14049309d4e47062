/-
  Permutations as lists of integers: plain mathematics.
-/
import Derived.Test.YtajkfkpnjbkhhaaArr
namespace Go.Proofs.Ytajkfkpnjbkhhaa.pm
open Go.Proofs.Ytajkfkpnjbkhhaa.arr
set_option linter.unusedVariables false
set_option maxRecDepth 100000

/-- The first k elements are different numbers from 0 up to the length. -/
def OkTo (xs : List Int) (k : Nat) : Prop := ∀ i, i < k → 0 ≤ xs.getD i 0 ∧ xs.getD i 0 < xs.length ∧ ∀ j, j < i → xs.getD j 0 ≠ xs.getD i 0
instance (xs : List Int) (k : Nat) : Decidable (OkTo xs k) := by unfold OkTo; exact inferInstance
def okB (xs : List Int) : Bool := decide (xs.length ≤ 24 ∧ OkTo xs xs.length)
structure Ok (xs : List Int) : Prop where
  len : xs.length ≤ 24
  lo : ∀ i, i < xs.length → 0 ≤ xs.getD i 0
  hi : ∀ i, i < xs.length → xs.getD i 0 < xs.length
  inj : ∀ i j, i < xs.length → j < xs.length → xs.getD i 0 = xs.getD j 0 → i = j
theorem Ok.of (xs : List Int) (h : okB xs = true) : Ok xs := by
  unfold okB at h
  rw [decide_eq_true_iff] at h
  refine ⟨h.1, fun i hi => (h.2 i hi).1, fun i hi => (h.2 i hi).2.1, fun i j hi hj e => ?_⟩
  rcases Nat.lt_trichotomy i j with hl | hl | hl
  · exact absurd e ((h.2 j hj).2.2 i hl)
  · exact hl
  · exact absurd e.symm ((h.2 i hi).2.2 j hl)
theorem Ok.b {xs : List Int} (h : Ok xs) : okB xs = true := by
  unfold okB
  rw [decide_eq_true_iff]
  exact ⟨h.len, fun i hi => ⟨h.lo i hi, h.hi i hi, fun j hj e => by have := h.inj j i (by omega) hi e; omega⟩⟩
theorem okB_long {xs : List Int} (h : 24 < xs.length) : okB xs = false := by
  unfold okB; rw [decide_eq_false_iff_not]; intro e; omega
theorem okB_bad {xs : List Int} {k : Nat} (hk : k < xs.length) (h : xs.getD k 0 < 0 ∨ xs.length ≤ xs.getD k 0) : okB xs = false := by
  unfold okB; rw [decide_eq_false_iff_not]; intro e
  have := e.2 k hk
  omega
theorem okB_dup {xs : List Int} {k : Nat} (hk : k < xs.length) (h : xs.getD k 0 ∈ xs.take k) : okB xs = false := by
  unfold okB; rw [decide_eq_false_iff_not]; intro e
  obtain ⟨j, hj, he⟩ := List.getElem_of_mem h
  simp at hj
  refine (e.2 k hk).2.2 j (by omega) ?_
  rw [← he]
  simp [List.getD, List.getElem?_eq_getElem (show j < xs.length by omega)]
theorem okB_yes {xs : List Int} (h : xs.length ≤ 24) (h2 : OkTo xs xs.length) : okB xs = true := by
  unfold okB; rw [decide_eq_true_iff]; exact ⟨h, h2⟩
theorem OkTo.step {xs : List Int} {k : Nat} (h : OkTo xs k) (hk : k < xs.length) (h1 : 0 ≤ xs.getD k 0) (h2 : xs.getD k 0 < xs.length) (h3 : ¬ xs.getD k 0 ∈ xs.take k) : OkTo xs (k + 1) := by
  intro i hi
  by_cases e : i = k
  · subst e
    refine ⟨h1, h2, fun j hj he => h3 ?_⟩
    rw [← he]
    have hl : j < xs.length := by omega
    have : xs.getD j 0 = (xs.take i)[j]'(by simp; omega) := by simp [List.getD, List.getElem?_eq_getElem hl]
    rw [this]
    exact List.getElem_mem _
  · exact h i (by omega)

def tabB (f : Nat → Bool) : List Bool := (List.range 24).map f
theorem tabB_len (f : Nat → Bool) : (tabB f).length = 24 := by simp [tabB]
theorem tabB_at (f : Nat → Bool) {k : Nat} (h : k < 24) : (tabB f)[k]? = some (f k) := by simp [tabB, h]
theorem tabB_set (f f' : Nat → Bool) {k : Nat} (h : ∀ j, j < 24 → f' j = if j = k then true else f j) : (tabB f).set k true = tabB f' := by
  refine List.ext_getElem? fun i => ?_
  by_cases hi : i < 24
  · rw [tabB_at _ hi, List.getElem?_set, h i hi]
    by_cases e : k = i
    · subst e; simp [tabB_len, hi]
    · rw [if_neg e, tabB_at _ hi, if_neg (by omega)]
  · rw [List.getElem?_eq_none (by simp [tabB_len]; omega), List.getElem?_eq_none (by simp [tabB_len]; omega)]
/-- Which numbers are among the first k. -/
def flags (xs : List Int) (k : Nat) : List Bool := tabB fun j => decide ((j : Int) ∈ xs.take k)
theorem flags_step {xs : List Int} {k z : Nat} (hk : k < xs.length) (hz : xs.getD k 0 = (z : Int)) : (flags xs k).set z true = flags xs (k + 1) := by
  refine tabB_set _ _ fun j hj => ?_
  have e : xs.take (k + 1) = xs.take k ++ [(z : Int)] := by
    rw [List.take_succ_eq_append_getElem hk, ← hz]; simp [List.getD, List.getElem?_eq_getElem hk]
  rw [e]
  by_cases hjz : j = z
  · subst hjz; simp
  · have : ¬ ((j : Int) = (z : Int)) := by omega
    simp [hjz, this]
def extTo (xs : List Int) (k : Nat) : List Int := tab fun i => if i < k then xs.getD i 0 else (i : Int)
theorem extTo_zero (xs : List Int) : extTo xs 0 = idl := by simp [extTo, idl]
theorem extTo_step (xs : List Int) (k : Nat) : (extTo xs k).set k (xs.getD k 0) = extTo xs (k + 1) := by
  have h := tab_set (fun i => if i < k then xs.getD i 0 else (i : Int)) (fun i => if i < k + 1 then xs.getD i 0 else (i : Int)) (k := k) (fun j hj => by
    by_cases e : j = k
    · subst e; simp
    · simp only [if_neg e]; split <;> split <;> first | rfl | omega)
  simpa [extTo] using h
/-- p among 24 elements: the others stay. -/
def ext (xs : List Int) : List Int := extTo xs xs.length
def pv (xs : List Int) : List Int := if okB xs then ext xs else zeros
theorem zeros_len : zeros.length = 24 := by simp [zeros]
theorem ext_len (xs : List Int) : (ext xs).length = 24 := tab_len _
theorem pv_len (xs : List Int) : (pv xs).length = 24 := by unfold pv; split; exact ext_len _; exact zeros_len
theorem ext_at {xs : List Int} {i : Nat} (h : i < 24) : (ext xs).getD i 0 = if i < xs.length then xs.getD i 0 else (i : Int) := by
  unfold ext extTo; rw [tab_get _ h]
end Go.Proofs.Ytajkfkpnjbkhhaa.pm
