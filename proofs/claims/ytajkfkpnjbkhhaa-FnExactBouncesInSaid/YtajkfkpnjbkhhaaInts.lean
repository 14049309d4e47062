/-
  Contracts of the laws' helpers on slices of ints: eqIntS, markIntS, heldIntS, toIntS; a slice of ints that came in.
-/
import Derived.Test.YtajkfkpnjbkhhaaMem
import Derived.Outline
namespace Go.Proofs.Ytajkfkpnjbkhhaa.ints
open Go.ChangeShapes Go.WideShapes Go.ChangeAt Go.RowKit
open Go.Proofs.Ytajkfkpnjbkhhaa.mem
set_option linter.unusedVariables false
set_option maxRecDepth 100000

def V (l : List Int) : List Value := l.map (Value.int .i64)
theorem V_len (l : List Int) : (V l).length = l.length := by simp [V]
theorem V_at {l : List Int} {k : Nat} {u : Value} (h : (V l)[k]? = some u) : ∃ z, l[k]? = some z ∧ u = .int .i64 z := by
  simp only [V, List.getElem?_map, Option.map_eq_some_iff] at h
  obtain ⟨s, h1, h2⟩ := h
  exact ⟨s, h1, h2.symm⟩
theorem V_get {l : List Int} {k : Nat} {z : Int} (h : l[k]? = some z) : (V l)[k]? = some (.int .i64 z) := by simp [V, h]
theorem V_set (l : List Int) (k : Nat) (z : Int) : (V l).set k (.int .i64 z) = V (l.set k z) := by simp [V, List.map_set]

def Drawn (w w' : World) : Prop := ∃ m, w' = w.drewN m
theorem Drawn.cell {w w' : World} (h : Drawn w w') (p : Addr) : w'.cell? p = w.cell? p := by obtain ⟨m, rfl⟩ := h; rfl
theorem Drawn.more {w w' : World} (h : Drawn w w') (n : Nat) : Drawn w (w'.drewN n) := by obtain ⟨m, rfl⟩ := h; exact ⟨m + n, by simp⟩
theorem Drawn.below {w w' : World} (h : Drawn w w') (B : Nat) : Below B w w' := by obtain ⟨m, rfl⟩ := h; exact below_drewN (Below.refl _ _) _
theorem infoI : (Try.prog.info? 3).map (fun i => (i.zero, i.size, i.bytes)) = some (some (.int .i64 0), 1, 8) := by kernel_rfl

def eqi (xs ys : List Int) : Bool := decide (xs = ys)
def Same (xs ys : List Int) (k : Nat) : Prop := ∀ j, j < k → xs[j]? = ys[j]?
theorem Same.step {xs ys : List Int} {k : Nat} {s : Int} (h : Same xs ys k) (h1 : xs[k]? = some s) (h2 : ys[k]? = some s) : Same xs ys (k + 1) := by
  intro j hj
  by_cases e : j = k
  · subst e; rw [h1, h2]
  · exact h j (by omega)
theorem eqi_no {xs ys : List Int} {k : Nat} {s t : Int} (h1 : xs[k]? = some s) (h2 : ys[k]? = some t) (h : s ≠ t) : eqi xs ys = false := by
  unfold eqi
  rw [decide_eq_false_iff_not]
  rintro rfl
  rw [h1] at h2
  exact h (Option.some.inj h2)
theorem eqi_len {xs ys : List Int} (h : xs.length ≠ ys.length) : eqi xs ys = false := by
  unfold eqi
  rw [decide_eq_false_iff_not]
  rintro rfl
  exact h rfl
theorem eqi_yes {xs ys : List Int} {n : Nat} (h1 : xs.length = n) (h2 : ys.length = n) (h : Same xs ys n) : eqi xs ys = true := by
  unfold eqi
  rw [decide_eq_true_iff]
  refine List.ext_getElem? fun i => ?_
  by_cases hi : i < n
  · exact h i hi
  · rw [List.getElem?_eq_none (by omega), List.getElem?_eq_none (by omega)]
theorem eqi_self (xs : List Int) : eqi xs xs = true := by simp [eqi]

def Marks (k : Int) (n : Nat) : List Int := (List.range n).map fun (i : Nat) => k + (i : Int)
theorem marks_at {k : Int} {n j : Nat} (h : j < n) : (V (Marks k n))[j]? = some (.int .i64 (k + j)) := by
  simp [V, Marks, h]
def MUpto (ys : List Value) (k : Int) (j : Nat) : Prop := ∀ i : Nat, i < j → ys[i]? = some (.int .i64 (k + i))
theorem MUpto.all {ys : List Value} {k : Int} {n : Nat} (h : MUpto ys k n) (hl : ys.length = n) : ys = V (Marks k n) := by
  refine List.ext_getElem? fun i => ?_
  by_cases hi : i < n
  · rw [h i hi, marks_at hi]
  · rw [List.getElem?_eq_none (by omega), List.getElem?_eq_none (by simp [V, Marks]; omega)]
theorem MUpto.step {ys : List Value} {k : Int} {j : Nat} (h : MUpto ys k j) (hl : j < ys.length) : MUpto (ys.set j (.int .i64 (k + j))) k (j + 1) := by
  intro i hi
  by_cases e : i = j
  · subst e; rw [List.getElem?_set_self hl]
  · rw [List.getElem?_set_ne (by omega)]; exact h i (by omega)
def MarkRel (A : Option Addr) (n lo hi : Nat) (k : Int) (w wr : World) (j : Nat) : Prop := ∃ ys, Row wr lo hi A n ys ∧ MUpto ys k j ∧ Out lo hi w wr

def Upto (ys : List Value) (xs : List Int) (j : Nat) : Prop := ∀ i : Nat, i < j → ys[i]? = (V xs)[i]?
theorem Upto.step {ys : List Value} {xs : List Int} {j : Nat} {s : Int} (h : Upto ys xs j) (hl : j < ys.length) (hs : (V xs)[j]? = some (.int .i64 s)) : Upto (ys.set j (.int .i64 s)) xs (j + 1) := by
  intro i hi
  by_cases e : i = j
  · subst e; rw [List.getElem?_set_self hl, hs]
  · rw [List.getElem?_set_ne (by omega)]; exact h i (by omega)
theorem Upto.all {ys : List Value} {xs : List Int} {n : Nat} (h : Upto ys xs n) (hl : ys.length = n) (hx : xs.length = n) : ys = V xs := by
  refine List.ext_getElem? fun i => ?_
  by_cases hi : i < n
  · exact h i hi
  · rw [List.getElem?_eq_none (by omega), List.getElem?_eq_none (by simp [V]; omega)]
def CopyRel (xs : List Int) (n : Nat) (w wr : World) (j : Nat) : Prop := ∃ ys, wr.ownsRow w.heap.size 3 1 (.slice (some ⟨w.heap.size, 0, none⟩) n n) n ys ∧ Upto ys xs j ∧ Below w.heap.size w wr

theorem open_I {H : Type} {enc : TypeId × Value → H} {P : Program} {W : World} {t e : TypeId} {A : Option Addr} {n c : Nat} {d : DataW H} {ps : List MemPlace}
    (ht : P.underlying t = some (.slice e)) (he : P.underlying e = some (.int .i64)) (hc : P.cellsOf e = 1) (h : DataW.Trod enc P W 0 (fun _ => true) true t (.slice A n c) d ps) :
    ∃ xs : List Int, Rd W W.heap.size A n (V xs) ∧ n ≤ c ∧ c ≤ maxLen ∧ True := by
  obtain ⟨fuel, hf⟩ := h
  rcases open_ints ht he hc hf with ⟨hcs, _⟩ | ⟨x, l, cap, ss, hcs, _, hl, hm, hz, _, hcell, hwz⟩
  · simp [Value.cells] at hcs
    obtain ⟨rfl, rfl, rfl⟩ := hcs
    exact ⟨[], ⟨rfl, Nat.le_refl _, fun h => absurd h (by omega)⟩, Nat.le_refl _, by simp, trivial⟩
  · simp [Value.cells] at hcs
    obtain ⟨rfl, rfl, rfl⟩ := hcs
    have hz' : ss.length = c := by simpa using hz
    refine ⟨ss.take n, Rd.of_cells (by simp [V]; omega) (fun i hi => ?_), hl, hm, trivial⟩
    rw [hcell i (by omega)]
    simp [V, hi, List.getD, List.getElem?_eq_getElem (show i < ss.length by omega)]
end Go.Proofs.Ytajkfkpnjbkhhaa.ints
