/-
  Contracts of the model's AroundOf, CornersOf, AnglesOf, StratumOf, GenusOf, IsRegularCorner.
-/
import Derived.Test.YtglpiopjhddoeaaAr
import Derived.Test.YtglpiopjhddoeaaDn
import Derived.Test.YtglpiopjhddoeaaCycSpec
namespace Go.Proofs.Ytglpiopjhddoeaa.gl
open Go.ChangeShapes Go.WideShapes Go.ChangeAt Go.RowKit
open Go.Proofs.Ytglpiopjhddoeaa.mem Go.Proofs.Ytglpiopjhddoeaa.ints Go.Proofs.Ytglpiopjhddoeaa.arr Go.Proofs.Ytglpiopjhddoeaa.pm Go.Proofs.Ytglpiopjhddoeaa.permOk Go.Proofs.Ytglpiopjhddoeaa.permOf Go.Proofs.Ytglpiopjhddoeaa.inv Go.Proofs.Ytglpiopjhddoeaa.fns Go.Proofs.Ytglpiopjhddoeaa.sf Go.Proofs.Ytglpiopjhddoeaa.mat
set_option linter.unusedVariables false
set_option maxRecDepth 100000

theorem gives_eq {r r' : List Int} {w w' : World} {e : Ending} (h : r' = r) (g : Gives r w e w') : Gives r' w e w' := h ▸ g
theorem mgives_eq {r r' : List (List Int)} {w w' : World} {e : Ending} (h : r' = r) (g : MGives r w e w') : MGives r' w e w' := h ▸ g

theorem angF_range (r u : List Int) : ∀ x ∈ angF r u, 0 ≤ x ∧ x ≤ 24 := by
  intro x hx
  have h := (sortD_perm _).mem_iff.1 hx
  obtain ⟨c, hc, rfl⟩ := List.mem_map.1 h
  have h2 := (corF_small r u).2
  have h3 : c.length ≤ ((corF r u).map List.length).sum := by
    obtain ⟨k, hk⟩ := List.getElem?_of_mem hc
    exact tot_row hk
  omega
/-- The stratum that grows: from the block behind the box on. -/
structure Sg (w w1 wr : World) (v : Value) (l : List Int) : Prop where
  own : wr.ownsRow (w.heap.size + 1) 3 1 v l.length (V l)
  out : Out (w.heap.size + 1) (w.heap.size + 2) w1 wr
  at_ : ∀ b, v.ownBlock = some b → b = w.heap.size + 1 ∨ w1.heap.size ≤ b
theorem Sg.next {w w1 wr w' : World} {v v' : Value} {l : List Int} {z : Int} {n : Nat} (h : Sg w w1 wr v l) (ho : w'.ownsRow (w.heap.size + 1) 3 1 v' (n + 1) (V l ++ [.int .i64 z])) (hn : n = l.length)
    (hg : wr.grownBy w' v.ownBlock) (hb : v'.ownBlock = v.ownBlock ∨ ∃ k, v'.ownBlock = some k ∧ wr.heap.size + 1 ≤ k) : Sg w w1 w' v' (l ++ [z]) := by
  subst hn
  have e : V (l ++ [z]) = V l ++ [.int .i64 z] := by simp [V]
  have hs := h.out.size
  refine ⟨by rw [e]; simpa using ho, ⟨hg.os.trans h.out.os, hg.tape.trans h.out.tape, hg.output.trans h.out.output, Nat.le_trans hs hg.size, fun k hk hne => ?_⟩, fun b hq => ?_⟩
  · refine (hg.block k (by omega) (fun e => ?_)).trans (h.out.block k hk hne)
    have := h.at_ k e.symm
    omega
  · rcases hb with q | ⟨k, q, hk⟩
    · exact h.at_ b (by rw [← q]; exact hq)
    · rw [q] at hq; injection hq with hq; omega

end Go.Proofs.Ytglpiopjhddoeaa.gl
