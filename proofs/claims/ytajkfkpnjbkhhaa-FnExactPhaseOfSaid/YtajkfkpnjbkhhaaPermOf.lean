/-
  Contracts of impl.permOf, impl.permsOf.
-/
import Derived.Test.YtajkfkpnjbkhhaaPermOk
namespace Go.Proofs.Ytajkfkpnjbkhhaa.permOf
open Go.ChangeShapes Go.WideShapes Go.ChangeAt Go.RowKit
open Go.Proofs.Ytajkfkpnjbkhhaa.mem Go.Proofs.Ytajkfkpnjbkhhaa.ints Go.Proofs.Ytajkfkpnjbkhhaa.arr Go.Proofs.Ytajkfkpnjbkhhaa.pm Go.Proofs.Ytajkfkpnjbkhhaa.permOk
set_option linter.unusedVariables false
set_option maxRecDepth 100000

theorem results_cell_tmp {P : Program} {fn : Func} {p q : Tmp} {ty : TypeId} (h : fn.results = #[.cell p ty, .tmp q]) (tmps : Array Value) (w : World) (g : Nat) (t : TypeId) (cs : Array Value) (fr : Nat × Nat) (d : TypeDesc) (v : Value)
    (hp : tmps.getD p undef = .pointer (some ⟨g, 0, none⟩)) (hq : tmps.getD q undef = v) (hg : w.heap[g]? = some (.cells cs t fr))
    (hu : P.underlying ty = some d) (hd : (match d with | .struct _ | .array _ _ => true | _ => false) = true) (hi : (P.info? ty).map (·.size) = some cs.size) :
    (results fn tmps).run P w = .ok (.tuple #[.agg cs, v]) w := by
  have hp' : tmps[p]?.getD undef = .pointer (some ⟨g, 0, none⟩) := by simpa using hp
  have hq' : tmps[q]?.getD undef = v := by simpa using hq
  simp [results, h, hp', hq', asAddr, run_loadVar_row w g t ty cs fr d hg hu hd hi]
theorem results_cell2_tmp {P : Program} {fn : Func} {p p2 q : Tmp} {ty : TypeId} (h : fn.results = #[.cell p ty, .cell p2 ty, .tmp q]) (tmps : Array Value) (w : World) (g g2 : Nat) (t : TypeId) (cs cs2 : Array Value) (fr : Nat × Nat) (d : TypeDesc) (v : Value)
    (hp : tmps.getD p undef = .pointer (some ⟨g, 0, none⟩)) (hp2 : tmps.getD p2 undef = .pointer (some ⟨g2, 0, none⟩)) (hq : tmps.getD q undef = v) (hg : w.heap[g]? = some (.cells cs t fr)) (hg2 : w.heap[g2]? = some (.cells cs2 t fr))
    (hu : P.underlying ty = some d) (hd : (match d with | .struct _ | .array _ _ => true | _ => false) = true) (hi : (P.info? ty).map (·.size) = some cs.size) (hi2 : (P.info? ty).map (·.size) = some cs2.size) :
    (results fn tmps).run P w = .ok (.tuple #[.agg cs, .agg cs2, v]) w := by
  have hp' : tmps[p]?.getD undef = .pointer (some ⟨g, 0, none⟩) := by simpa using hp
  have hp2' : tmps[p2]?.getD undef = .pointer (some ⟨g2, 0, none⟩) := by simpa using hp2
  have hq' : tmps[q]?.getD undef = v := by simpa using hq
  simp [results, h, hp', hp2', hq', asAddr, run_loadVar_row w g t ty cs fr d hg hu hd hi, run_loadVar_row w g2 t ty cs2 fr d hg2 hu hd hi2]

def VB (l : List Bool) : List Value := l.map Value.bool
theorem VB_set (l : List Bool) (k : Nat) (b : Bool) : (VB l).set k (.bool b) = VB (l.set k b) := by simp [VB, List.map_set]
theorem flags_cell {w : World} {g : Nat} {f : Nat → Bool} {t : TypeId} (h : Arr w g (VB (tabB f)) t) {k : Nat} (hk : k < 24) {b : Bool} (hb : f k = b) : w.cell? ⟨g, k, none⟩ = some (.bool b) :=
  h.cell (by simp [VB, tabB_at f hk, hb])

def PermPost (xs : List Int) (w : World) (e : Ending) (w' : World) : Prop := e = .returned (.tuple #[.agg (V (pv xs)).toArray, .bool (okB xs)]) ∧ Below w.heap.size w w'
theorem post_no {xs : List Int} {w w' : World} (h : okB xs = false) (hb : Below w.heap.size w w') : PermPost xs w (.returned (.tuple #[.agg (V zeros).toArray, .bool false])) w' := by
  refine ⟨?_, hb⟩
  unfold pv
  simp [h]
theorem post_yes {xs : List Int} {w w' : World} (h : okB xs = true) (hb : Below w.heap.size w w') : PermPost xs w (.returned (.tuple #[.agg (V (ext xs)).toArray, .bool true])) w' := by
  refine ⟨?_, hb⟩
  unfold pv
  simp [h]
theorem flags_zero (xs : List Int) : flags xs 0 = List.replicate 24 false := by
  simp only [flags, List.take_zero, List.not_mem_nil, decide_false]; decide

end Go.Proofs.Ytajkfkpnjbkhhaa.permOf
