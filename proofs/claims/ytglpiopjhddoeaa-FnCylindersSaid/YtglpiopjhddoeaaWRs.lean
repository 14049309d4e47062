/-
  RenameSurface, of the model and of the program.
-/
import Derived.Test.YtglpiopjhddoeaaWNf
namespace Go.Proofs.Ytglpiopjhddoeaa.gl
open Go.ChangeShapes Go.WideShapes Go.ChangeAt Go.RowKit
open Go.Proofs.Ytglpiopjhddoeaa.mem Go.Proofs.Ytglpiopjhddoeaa.ints Go.Proofs.Ytglpiopjhddoeaa.arr Go.Proofs.Ytglpiopjhddoeaa.pm Go.Proofs.Ytglpiopjhddoeaa.permOk Go.Proofs.Ytglpiopjhddoeaa.permOf Go.Proofs.Ytglpiopjhddoeaa.inv Go.Proofs.Ytglpiopjhddoeaa.fns Go.Proofs.Ytglpiopjhddoeaa.sf
set_option linter.unusedVariables false
set_option maxRecDepth 100000

/-- A surface and a bool. -/
def SB (r u : List Int) (b : Bool) (w : World) (e : Ending) (w' : World) : Prop := ∃ g, e = .returned (.tuple #[g, .bool b]) ∧ Svl w' w.heap.size w'.heap.size g r u ∧ Below w.heap.size w w'
theorem built2 : Try.prog.built 25 [] = some #[.slice none 0 0, .slice none 0 0] := by kernel_rfl
theorem sb_nil {w w1 : World} {b : Bool} {r u : List Int} (hr : r = []) (hu : u = []) (hb : b = false) (h : Below w.heap.size w w1) : SB r u b w (.returned (.tuple #[.agg #[.slice none 0 0, .slice none 0 0], .bool false])) w1 := by
  subst hr; subst hu; subst hb
  exact ⟨_, rfl, Svl.nil _ _ _ (Nat.le_refl _) h.size, h⟩
theorem Svl.row {w : World} {lo hi g : Nat} {v : Value} {r u : List Int} (h : Svl w lo hi v r u) (hg : g < lo) (cs : Array Value) : Svl (w.setRow g cs) lo hi v r u :=
  h.out ((Out.refl 0 (g + 1) w).row_ (Nat.zero_le _) (Nat.lt_succ_self _) cs) (.inr (by omega))
def rsB (r u ns : List Int) : Bool := transB r u && okB ns && decide (ns.length = r.length)
def rsR (r u ns : List Int) : List Int := if rsB r u ns then renTo r.length r ns r.length else []
def rsU (r u ns : List Int) : List Int := if rsB r u ns then renTo r.length u ns r.length else []
theorem rsB_iff {r u ns : List Int} : rsB r u ns = true ↔ transB r u = true ∧ okB ns = true ∧ ns.length = r.length := by simp [rsB, and_assoc]
theorem rs_no {r u ns : List Int} (h : ¬ (transB r u = true ∧ okB ns = true ∧ ns.length = r.length)) : rsR r u ns = [] ∧ rsU r u ns = [] ∧ rsB r u ns = false := by
  have : rsB r u ns = false := by rw [← Bool.not_eq_true, rsB_iff]; exact h
  simp [rsR, rsU, this]
theorem rs_yes {r u ns : List Int} (h : transB r u = true) (h2 : okB ns = true) (h3 : ns.length = r.length) : rsR r u ns = renTo r.length r ns r.length ∧ rsU r u ns = renTo r.length u ns r.length ∧ rsB r u ns = true := by
  have : rsB r u ns = true := rsB_iff.2 ⟨h, h2, h3⟩
  simp [rsR, rsU, this]
theorem rsR_len (r u ns : List Int) : (rsR r u ns).length ≤ 1048576 := by
  unfold rsR; split
  · rename_i h; have := (transB_iff.1 (rsB_iff.1 h).1).r.len; rw [renTo_len]; omega
  · simp
theorem rsU_len (r u ns : List Int) : (rsU r u ns).length ≤ 1048576 := by
  unfold rsU; split
  · rename_i h; have := (transB_iff.1 (rsB_iff.1 h).1).r.len; rw [renTo_len]; omega
  · simp

end Go.Proofs.Ytglpiopjhddoeaa.gl
