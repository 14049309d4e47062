/-
  What FnKept says of a surface and of what a word makes of it. Plain mathematics.
-/
import Derived.Test.YtpmojmhamgcfmaaWHb
import Derived.Test.YtpmojmhamgcfmaaWFx
import Derived.Test.YtpmojmhamgcfmaaWCt
import Derived.Test.YtpmojmhamgcfmaaY09
import Derived.Test.YtpmojmhamgcfmaaY11
namespace Go.Proofs.Ytpmojmhamgcfmaa.ht
open Go.ChangeShapes Go.WideShapes Go.ChangeAt Go.RowKit
open Go.Proofs.Ytpmojmhamgcfmaa.mem Go.Proofs.Ytpmojmhamgcfmaa.arr Go.Proofs.Ytpmojmhamgcfmaa.inv Go.Proofs.Ytpmojmhamgcfmaa.permOf Go.Proofs.Ytpmojmhamgcfmaa.pm Go.Proofs.Ytpmojmhamgcfmaa.orb Go.Proofs.Ytpmojmhamgcfmaa.gl Go.Proofs.Ytpmojmhamgcfmaa.sf Go.Proofs.Ytpmojmhamgcfmaa.ints Go.Proofs.Ytpmojmhamgcfmaa.rw Go.Proofs.Ytpmojmhamgcfmaa.wd
set_option linter.unusedVariables false
set_option maxRecDepth 100000

theorem _root_.Go.Proofs.Ytpmojmhamgcfmaa.mat.drawn_below {w w' : World} (h : Drawn w w') : Below w.heap.size w w' := by
  obtain ⟨m, rfl⟩ := h
  exact ⟨rfl, rfl, rfl, Nat.le_refl _, fun _ _ => rfl⟩
theorem kp_x {n : Nat} {r u : List Int} (s : Sf n r u) {w : ByteArray} (hw : wok w = true) : rwB r u w = true ∧ Sf n (rwR r u w) (rwU r u w) ∧ Kept n (r, u) (rwR r u w, rwU r u w) := by
  have hb := rwB_yes (s := w) (cr_t s) hw
  obtain ⟨e1, e2⟩ := rw_yes hb
  rw [e1, e2]
  exact ⟨hb, runS_sf w.data.toList (r, u) s, kept_run w.data.toList (r, u) (wok_all hw) s⟩
theorem half_is {n : Nat} {r u : List Int} (s : Sf n r u) : halfF r u = decide (0 < tuN r u n) := by
  have hb := rwB_yes (r := r) (u := u) (s := ⟨#[83, 83]⟩) (cr_t s) (by decide +kernel)
  obtain ⟨e1, e2⟩ := rw_yes hb
  have e : runS (⟨#[83, 83]⟩ : ByteArray).data.toList (r, u) = (Inv r, Inv u) := rfl
  rw [e] at e1 e2
  unfold halfF
  rw [fix_yes hb, e1, e2]
  exact iso_half s
theorem tuF_le {n : Nat} {r u : List Int} (s : Sf n r u) : (tuF r u).length ≤ 24 := by
  have h24 := s.r.len
  rw [s.lr] at h24
  rw [tuF_yes (cr_t s) s.lr]
  have := (tuK_len s n).1
  omega
theorem kp_all {n : Nat} {r u xr xu : List Int} (s : Sf n r u) (t : Sf n xr xu) (k : Kept n (r, u) (xr, xu)) :
    angF xr xu = angF r u ∧ strF xr xu = strF r u ∧ genF xr xu = genF r u ∧ csF xr xu = csF r u ∧ halfF xr xu = halfF r u ∧ (tuF xr xu).length = (tuF r u).length ∧ cntF xr xu = (n : Int) := by
  have ka : angF xr xu = angF r u := k.ang
  have hc : (corF xr xu).length = (corF r u).length := by rw [← cr_len, ← cr_len, ka]
  refine ⟨ka, by unfold strF; rw [ka], ?_, ?_, ?_, ?_, ?_⟩
  · simp only [genF, cr_t s, cr_t t, if_true, hc, s.lr, t.lr]
  · have e := cs_yes (cr_t s); have e' := cs_yes (cr_t t)
    rw [s.lr] at e; rw [t.lr] at e'
    have := k.sym
    rw [e, e', show sym xr xu n = sym r u n from this]
  · rw [half_is s, half_is t, show tuN xr xu n = tuN r u n from k.tu]
  · rw [tuF_len s, tuF_len t]; exact k.tu
  · simp [cntF, cr_t t, t.lr]
end Go.Proofs.Ytpmojmhamgcfmaa.ht
