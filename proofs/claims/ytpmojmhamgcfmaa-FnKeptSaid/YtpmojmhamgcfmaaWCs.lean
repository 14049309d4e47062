/-
  The model's order and canonical form; CanonOf of the model.
-/
import Derived.Test.YtpmojmhamgcfmaaY13
import Derived.Test.YtpmojmhamgcfmaaY18
import Derived.Deep.CutRange
namespace Go.Proofs.Ytpmojmhamgcfmaa.gl
open Go.ChangeShapes Go.WideShapes Go.ChangeAt Go.RowKit
open Go.Proofs.Ytpmojmhamgcfmaa.mem Go.Proofs.Ytpmojmhamgcfmaa.ints Go.Proofs.Ytpmojmhamgcfmaa.arr Go.Proofs.Ytpmojmhamgcfmaa.pm Go.Proofs.Ytpmojmhamgcfmaa.permOk Go.Proofs.Ytpmojmhamgcfmaa.permOf Go.Proofs.Ytpmojmhamgcfmaa.inv Go.Proofs.Ytpmojmhamgcfmaa.fns Go.Proofs.Ytpmojmhamgcfmaa.sf
set_option linter.unusedVariables false
set_option maxRecDepth 100000

theorem lessL_at {k : Nat} {xs ys : List Int} {s t : Int} (hl : xs.length = ys.length) (h : Same xs ys k) (h1 : xs[k]? = some s) (h2 : ys[k]? = some t) (hne : s ≠ t) : lessL xs ys = decide (s < t) := by
  rw [← (cmpL_less xs ys hl).1, cmpL_at k xs ys s t h h1 h2 hne]
  by_cases q : s < t <;> simp [q]
/-- A box that holds a surface of n squares with both rows from lo on. -/
structure Bs (wr : World) (B lo n : Nat) (f : Sur) : Prop where
  ex : ∃ P c Q d hi, Arr wr B [.slice P n c, .slice Q n d] 25 ∧ Svl wr lo hi (.agg #[.slice P n c, .slice Q n d]) f.1 f.2
theorem Bs.keep {wr w' : World} {B lo n : Nat} {f : Sur} (h : Bs wr B lo n f) (hb : Below wr.heap.size wr w') : Bs w' B lo n f := by
  obtain ⟨P, c, Q, d, hi, a, s⟩ := h.ex
  exact ⟨P, c, Q, d, hi, a.keep hb a.lt, s.keep hb s.top⟩
/-- The argument's box, the result's box, and the best form so far. -/
structure Cs (w wr : World) (a b : Value) (n B3 : Nat) (f : Sur) : Prop where
  g : Arr wr w.heap.size [a, b] 25
  res : Arr wr (w.heap.size + 1) [.slice none 0 0, .slice none 0 0] 25
  best : Bs wr B3 (w.heap.size + 2) n f
  hB : w.heap.size + 2 ≤ B3
  below : Below w.heap.size w wr
theorem Cs.keep {w wr w' : World} {a b : Value} {n B3 : Nat} {f : Sur} (h : Cs w wr a b n B3 f) (hb : Below wr.heap.size wr w') : Cs w w' a b n B3 f :=
  ⟨h.g.keep hb h.g.lt, h.res.keep hb h.res.lt, h.best.keep hb, h.hB, h.below.trans (hb.mono h.below.size)⟩
theorem Cs.new {w wr : World} {a b : Value} {n B3 lo hi : Nat} {f f' : Sur} {P Q : Option Addr} {c d : Nat} (h : Cs w wr a b n B3 f) (hs : Svl wr lo hi (.agg #[.slice P n c, .slice Q n d]) f'.1 f'.2) (hl : B3 < lo) :
    Cs w (wr.setRow B3 #[.slice P n c, .slice Q n d]) a b n B3 f' := by
  have hB := h.hB
  obtain ⟨P', c', Q', d', hi', a', s'⟩ := h.best.ex
  refine ⟨h.g.rowOther (by omega), h.res.rowOther (by omega), ⟨P, c, Q, d, hi, a'.row, (Svl.row hs hl _).later (by omega)⟩, hB, below_setRow h.below (by omega) _⟩
def Fc (r u : List Int) (n k : Nat) : Sur := canTo (Fm r u n) k
theorem Fc_len (r u : List Int) (n k : Nat) : (Fc r u n k).1.length = n ∧ (Fc r u n k).2.length = n := by
  obtain ⟨j, hj, e⟩ := canTo_is (Fm r u n) k
  unfold Fc; rw [e]; exact Fm_len _ _ _ _

end Go.Proofs.Ytpmojmhamgcfmaa.gl
