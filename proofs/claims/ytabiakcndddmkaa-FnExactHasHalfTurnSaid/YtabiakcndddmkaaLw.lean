/-
  What the letters answer (any lists); ShearSurface, UnshearSurface, TurnSurface, UnturnSurface of the model.
-/
import Derived.Test.YtabiakcndddmkaaSh2
import Derived.Test.YtabiakcndddmkaaRi
namespace Go.Proofs.Ytabiakcndddmkaa.lw
open Go.ChangeShapes Go.WideShapes Go.ChangeAt Go.RowKit
open Go.Proofs.Ytabiakcndddmkaa.mem Go.Proofs.Ytabiakcndddmkaa.ints Go.Proofs.Ytabiakcndddmkaa.arr Go.Proofs.Ytabiakcndddmkaa.pm Go.Proofs.Ytabiakcndddmkaa.permOk Go.Proofs.Ytabiakcndddmkaa.permOf Go.Proofs.Ytabiakcndddmkaa.inv Go.Proofs.Ytabiakcndddmkaa.fns Go.Proofs.Ytabiakcndddmkaa.sf Go.Proofs.Ytabiakcndddmkaa.gl Go.Proofs.Ytabiakcndddmkaa.mk
set_option linter.unusedVariables false
set_option maxRecDepth 100000
/-- What a function on surfaces answers: the empty surface, if the lists are no surface. -/
def acR (f : Sur → Sur) (r u : List Int) : List Int := if transB r u then (f (r, u)).1 else []
def acU (f : Sur → Sur) (r u : List Int) : List Int := if transB r u then (f (r, u)).2 else []
theorem ac_yes (f : Sur → Sur) {r u : List Int} (h : transB r u = true) : acR f r u = (f (r, u)).1 ∧ acU f r u = (f (r, u)).2 := by simp [acR, acU, h]
theorem ac_no (f : Sur → Sur) {r u : List Int} (h : transB r u = false) : acR f r u = [] ∧ acU f r u = [] := by simp [acR, acU, h]
/-- It keeps surfaces. -/
def Keeps (f : Sur → Sur) : Prop := ∀ n R U, Sf n R U → Sf n (f (R, U)).1 (f (R, U)).2
theorem acR_le {f : Sur → Sur} (hf : Keeps f) (r u : List Int) : (acR f r u).length ≤ 1048576 := by
  unfold acR; split
  · rename_i h; have s := hf _ _ _ (transB_iff.1 h); have := s.r.len; omega
  · simp
theorem acU_le {f : Sur → Sur} (hf : Keeps f) (r u : List Int) : (acU f r u).length ≤ 1048576 := by
  unfold acU; split
  · rename_i h; have s := hf _ _ _ (transB_iff.1 h); have := s.u.len; omega
  · simp
theorem sh_keeps : Keeps shearS := fun n R U s => shear_sf s
def shR (r u : List Int) : List Int := acR shearS r u
def shU (r u : List Int) : List Int := acU shearS r u
theorem shR_len (r u : List Int) : (shR r u).length ≤ 1048576 := acR_le sh_keeps r u
theorem shU_len (r u : List Int) : (shU r u).length ≤ 1048576 := acU_le sh_keeps r u
theorem us_keeps : Keeps unshearS := fun n R U s => unshear_sf s
def usR (r u : List Int) : List Int := acR unshearS r u
def usU (r u : List Int) : List Int := acU unshearS r u
theorem usR_len (r u : List Int) : (usR r u).length ≤ 1048576 := acR_le us_keeps r u
theorem usU_len (r u : List Int) : (usU r u).length ≤ 1048576 := acU_le us_keeps r u
theorem tu_keeps : Keeps turnS := fun n R U s => turn_sf s
def tuR (r u : List Int) : List Int := acR turnS r u
def tuU (r u : List Int) : List Int := acU turnS r u
theorem tuR_len (r u : List Int) : (tuR r u).length ≤ 1048576 := acR_le tu_keeps r u
theorem tuU_len (r u : List Int) : (tuU r u).length ≤ 1048576 := acU_le tu_keeps r u
theorem ut_keeps : Keeps unturnS := fun n R U s => unturn_sf s
def utR (r u : List Int) : List Int := acR unturnS r u
def utU (r u : List Int) : List Int := acU unturnS r u
theorem utR_len (r u : List Int) : (utR r u).length ≤ 1048576 := acR_le ut_keeps r u
theorem utU_len (r u : List Int) : (utU r u).length ≤ 1048576 := acU_le ut_keeps r u
end Go.Proofs.Ytabiakcndddmkaa.lw
